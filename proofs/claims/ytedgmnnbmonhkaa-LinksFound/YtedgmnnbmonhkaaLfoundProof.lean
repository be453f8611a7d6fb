/- For every links, two links and an interface: spoorlaw16.LinksFound returns true, and changes nothing that was there. No condition. -/
import Derived.Test.YtedgmnnbmonhkaaRows
import Derived.Test.YtedgmnnbmonhkaaLkLives
import Derived.Test.YtedgmnnbmonhkaaLkOpen
import Derived.Test.YtedgmnnbmonhkaaLkFoundM
import Derived.ProofKit
import Derived.OpenShut
import Derived.ShutString
import Derived.SizedLaws
set_option linter.unusedVariables false
namespace Go.Proofs.Ytedgmnnbmonhkaa
namespace linksFound
open Go.ChangeShapes Go.WideShapes Go.ChangeAt Go.RowKit
open Go.ChangeMaps (open_string shut_string)
open Go.Proofs.Ytedgmnnbmonhkaa.Lk
open Go.Proofs.Ytedgmnnbmonhkaa.Addr (RowAt below2 below_drew below_new bset RowAt.lt RowAt.cell RowAt.frozen RowAt.below RowAt.drew RowAt.new RowAt.alloc cells2)
theorem own : ownKnob Try.prog.godebug = none := by kernel_rfl
theorem laidOut : laidOutB Try.prog = true := by kernel_rfl
set_option maxHeartbeats 16000000 in
set_option maxRecDepth 20000 in
theorem walk (v : Value) (l : List Lk) (x y : Lk) (i : Int) (w : World) (b0 : HasLks w v l) (f0 : ∀ s ∈ l, FitL s) (b1 : FitL x) (b2 : FitL y) (b3 : -9223372036854775808 ≤ i ∧ i ≤ 9223372036854775807) :
    Calls Try.prog 5 #[v, lkV x, lkV y, .int .i64 i] w fun e w' => e = .returned (.bool true) ∧ Below w.heap.size w w' := by
  have c0 := fun (W : World) => lives_any W
  have c1 := fun (W : World) (h : HasLks W v l) => put_any l v x W h
  have HV : Hid (lkV x = .agg #[.int .i64 x.iface, .int .i64 x.peer] ∧ lkV y = .agg #[.int .i64 y.iface, .int .i64 y.peer]) := ⟨rfl, rfl⟩
  rw [HV.out.1, HV.out.2]
  obtain ⟨X, hX⟩ : ∃ X, X = (w.alloc (.cells #[.int .i64 x.iface, .int .i64 x.peer] 24)).alloc (.cells #[.int .i64 y.iface, .int .i64 y.peer] 24) := ⟨_, rfl⟩
  have hB : Below w.heap.size w X := by rw [hX]; exact below_new (below_new (Below.refl _ _) _) _
  have r0 : RowAt X w.heap.size [.int .i64 x.iface, .int .i64 x.peer] 24 := by rw [hX]; exact (RowAt.new _ _ _).alloc _
  have r1 : RowAt X (w.heap.size + 1) [.int .i64 y.iface, .int .i64 y.peer] 24 := by rw [hX, ← World.size_alloc w (.cells #[.int .i64 x.iface, .int .i64 x.peer] 24)]; exact RowAt.new _ _ _
  clear f0 b1 b2 b3 HV
  by_cases h0 : (putL l x).2 = 0
  · obtain ⟨a1, a2, a3, a4⟩ := put_ok h0
    have hok := ok_ins a1 a2 a3
    have p1 := peer_ins a1 a2 a3
    have p2 := fun (h : i ≠ x.iface) => peer_other a1 a2 a3 h
    have p3 := del_ins a1 a2 a3
    have p4 := fun (h : (peerL l x.iface).2 = 3) => had_none h
    have p5 := fun (h2 : (putL (putL l x).1 y).2 = 0) (h3 : (putL l y).2 = 0) (hne : x.iface ≠ y.iface) => put_swap h0 h2 h3 hne
    rw [h0, a4] at c1
    rw [a4] at p5
    have c2 := fun (W : World) u => peer_any (insL l x) u x.iface W
    have c3 := fun (W : World) (h : HasLks W v l) => peer_any l v i W h
    have c4 := fun (W : World) u => peer_any (insL l x) u i W
    have c5 := fun (W : World) (h : HasLks W v l) => peer_any l v x.iface W h
    have c6 := fun (W : World) u => del_any (insL l x) u x.iface W
    have c7 := fun (W : World) u => check_any (insL l x) u W
    have c8 := fun (W : World) u => put_any (insL l x) u y W
    have c9 := fun (W : World) (h : HasLks W v l) => put_any l v y W h
    have c10 := fun (W : World) u => put_any (putL l y).1 u x W
    rw [p1] at c2
    rw [p3] at c6
    rw [show checkL (insL l x) = 0 by unfold checkL; rw [hok]; rfl] at c7
    have s1 := fun (W : World) u u' => same_any l u u' W
    have s2 := fun (W : World) u u' => same_any (putL (insL l x) y).1 u u' W
    obtain ⟨M, hM⟩ : ∃ M, M = insL l x := ⟨_, rfl⟩
    rw [← hM] at c1 c2 c4 c6 c7 c8 p2 p5 s2
    have HP2 : Hid (i ≠ x.iface → (peerL M i).1 = (peerL l i).1 ∧ (peerL M i).2 = (peerL l i).2) := fun h => by rw [p2 h]; exact ⟨rfl, rfl⟩
    have HP4 : Hid ((peerL l x.iface).2 = 3 → others l x.iface = l) := p4
    have HP5 : Hid ((putL M y).2 = 0 → (putL l y).2 = 0 → x.iface ≠ y.iface → (putL (putL l y).1 x).2 = 0 ∧ (putL M y).1 = (putL (putL l y).1 x).1) := p5
    clear p1 p2 p3 p4 p5 hM a1 a2 a3 a4 h0 hok
    obtain ⟨D, hD⟩ : ∃ D, D = (putL l y).1 := ⟨_, rfl⟩
    rw [← hD] at c9 c10 HP5
    generalize (peerL l i).1 = P1 at *
    generalize (peerL l i).2 = P2 at *
    generalize (peerL M i).1 = Q1 at *
    generalize (peerL M i).2 = Q2 at *
    generalize (peerL l x.iface).1 = R1 at *
    generalize (peerL l x.iface).2 = R2 at *
    generalize (putL M y).1 = S1 at *
    generalize (putL M y).2 = S2 at *
    generalize (putL l y).2 = T2 at *
    generalize (putL D x).1 = U1 at *
    generalize (putL D x).2 = U2 at *
    generalize others l x.iface = K at *
    generalize x.iface = xa at *
    generalize x.peer = xb at *
    generalize y.iface = ya at *
    generalize y.peer = yb at *
    simp only at c1 c2 c6
    clear hD
    have hxx : ((xb : Int) != xb) = false := by simp
    go_enter Try.func5, Try.ntmps5
    go_upto_region 1 with fail
    rw [← hX]
    clear hX
    replace b0 := b0.keep hB
    go_wp2_with fail
    go_at_call 11; refine (c0 _).mono ?_; rintro e w1 ⟨rfl, hb1⟩
    replace hB := below2 hB hb1
    replace b0 := b0.keep hb1
    replace r0 := RowAt.below r0 hb1
    replace r1 := RowAt.below r1 hb1
    clear hb1 c0
    obtain ⟨y0, y1, yf⟩ := cells2 r0
    obtain ⟨z0, z1, zf⟩ := cells2 r1
    go_wp2_with fail
    clear y0 y1 yf z0 z1 zf
    go_at_call 7; refine (c1 _ b0).mono ?_; rintro e w2 ⟨u2, rfl, h2, hb2⟩
    replace hB := below2 hB hb2
    replace b0 := b0.keep hb2
    replace r0 := RowAt.below r0 hb2
    replace r1 := RowAt.below r1 hb2
    clear hb2 c1
    obtain ⟨y0, y1, yf⟩ := cells2 r0
    obtain ⟨z0, z1, zf⟩ := cells2 r1
    go_wp2_with fail
    clear y0 y1 yf z0 z1 zf
    go_at_call 15; refine (c2 _ _ h2).mono ?_; rintro e w3 ⟨rfl, hb3⟩
    replace hB := below2 hB hb3
    replace b0 := b0.keep hb3
    replace h2 := h2.keep hb3
    replace r0 := RowAt.below r0 hb3
    replace r1 := RowAt.below r1 hb3
    clear hb3 c2
    obtain ⟨y0, y1, yf⟩ := cells2 r0
    obtain ⟨z0, z1, zf⟩ := cells2 r1
    go_wp2_with fail
    clear y0 y1 yf z0 z1 zf
    go_at_call 15; refine (c3 _ b0).mono ?_; rintro e w4 ⟨rfl, hb4⟩
    replace hB := below2 hB hb4
    replace b0 := b0.keep hb4
    replace h2 := h2.keep hb4
    replace r0 := RowAt.below r0 hb4
    replace r1 := RowAt.below r1 hb4
    clear hb4 c3
    obtain ⟨y0, y1, yf⟩ := cells2 r0
    obtain ⟨z0, z1, zf⟩ := cells2 r1
    go_wp2_with fail
    clear y0 y1 yf z0 z1 zf
    go_at_call 15; refine (c4 _ _ h2).mono ?_; rintro e w5 ⟨rfl, hb5⟩
    replace hB := below2 hB hb5
    replace b0 := b0.keep hb5
    replace h2 := h2.keep hb5
    replace r0 := RowAt.below r0 hb5
    replace r1 := RowAt.below r1 hb5
    clear hb5 c4
    obtain ⟨y0, y1, yf⟩ := cells2 r0
    obtain ⟨z0, z1, zf⟩ := cells2 r1
    go_wp2_with fail
    clear y0 y1 yf z0 z1 zf
    go_at_call 15; refine (c5 _ b0).mono ?_; rintro e w6 ⟨rfl, hb6⟩
    replace hB := below2 hB hb6
    replace b0 := b0.keep hb6
    replace h2 := h2.keep hb6
    replace r0 := RowAt.below r0 hb6
    replace r1 := RowAt.below r1 hb6
    clear hb6 c5
    obtain ⟨y0, y1, yf⟩ := cells2 r0
    obtain ⟨z0, z1, zf⟩ := cells2 r1
    go_wp2_with fail
    clear y0 y1 yf z0 z1 zf
    go_at_call 9; refine (c6 _ _ h2).mono ?_; rintro e w7 ⟨u7, rfl, h7, hb7⟩
    replace hB := below2 hB hb7
    replace b0 := b0.keep hb7
    replace h2 := h2.keep hb7
    replace r0 := RowAt.below r0 hb7
    replace r1 := RowAt.below r1 hb7
    clear hb7 c6
    obtain ⟨y0, y1, yf⟩ := cells2 r0
    obtain ⟨z0, z1, zf⟩ := cells2 r1
    go_wp2_with fail
    clear y0 y1 yf z0 z1 zf
    go_at_call 12; refine (c7 _ _ h2).mono ?_; rintro e w8 ⟨rfl, hb8⟩
    replace hB := below2 hB hb8
    replace b0 := b0.keep hb8
    replace h2 := h2.keep hb8
    replace h7 := h7.keep hb8
    replace r0 := RowAt.below r0 hb8
    replace r1 := RowAt.below r1 hb8
    clear hb8 c7
    obtain ⟨y0, y1, yf⟩ := cells2 r0
    obtain ⟨z0, z1, zf⟩ := cells2 r1
    by_cases g1 : i = xa
    · have hix : (i != xa) = false := by simpa using g1
      clear HP2 g1
      by_cases g2 : R2 = 3
      · have hKl := HP4.out g2
        subst g2 hKl
        clear HP4
        go_wp2_with fail
        clear y0 y1 yf z0 z1 zf
        go_at_call 14; refine (s1 _ _ _ h7 b0).mono ?_; rintro e w9 ⟨rfl, hb9⟩
        replace hB := below2 hB hb9
        replace b0 := b0.keep hb9
        replace h2 := h2.keep hb9
        replace r0 := RowAt.below r0 hb9
        replace r1 := RowAt.below r1 hb9
        clear hb9 s1 h7
        obtain ⟨y0, y1, yf⟩ := cells2 r0
        obtain ⟨z0, z1, zf⟩ := cells2 r1
        go_wp2_with fail
        clear y0 y1 yf z0 z1 zf
        go_at_call 7; refine (c8 _ _ h2).mono ?_; rintro e w10 ⟨u10, rfl, h10, hb10⟩
        replace hB := below2 hB hb10
        replace b0 := b0.keep hb10
        replace r0 := RowAt.below r0 hb10
        replace r1 := RowAt.below r1 hb10
        clear hb10 c8
        obtain ⟨y0, y1, yf⟩ := cells2 r0
        obtain ⟨z0, z1, zf⟩ := cells2 r1
        go_wp2_with fail
        clear y0 y1 yf z0 z1 zf
        go_at_call 7; refine (c9 _ b0).mono ?_; rintro e w11 ⟨u11, rfl, h11, hb11⟩
        replace hB := below2 hB hb11
        replace h10 := h10.keep hb11
        replace r0 := RowAt.below r0 hb11
        replace r1 := RowAt.below r1 hb11
        clear hb11 c9
        obtain ⟨y0, y1, yf⟩ := cells2 r0
        obtain ⟨z0, z1, zf⟩ := cells2 r1
        go_wp2_with fail
        clear y0 y1 yf z0 z1 zf
        go_at_call 7; refine (c10 _ _ h11).mono ?_; rintro e w12 ⟨u12, rfl, h12, hb12⟩
        replace hB := below2 hB hb12
        replace h10 := h10.keep hb12
        replace r0 := RowAt.below r0 hb12
        replace r1 := RowAt.below r1 hb12
        clear hb12 c10
        obtain ⟨y0, y1, yf⟩ := cells2 r0
        obtain ⟨z0, z1, zf⟩ := cells2 r1
        by_cases e1 : xa = ya
        · have d1 : (xa == ya) = true := by simpa using e1
          clear HP5 s2 e1
          go_wp2_with fail
          go_ret
          exact ⟨rfl, hB⟩
        have d1 : (xa == ya) = false := beq_eq_false_iff_ne.2 e1
        by_cases e2 : S2 = 0
        · by_cases e3 : T2 = 0
          · obtain ⟨q1, q2⟩ := HP5.out e2 e3 e1
            subst e2 e3 q1 q2
            clear HP5 e1
            go_wp2_with fail
            go_at_call 14; refine (s2 _ _ _ h10 h12).mono ?_; rintro e w13 ⟨rfl, hb13⟩
            replace hB := below2 hB hb13
            go_wp2_with fail
            go_ret
            exact ⟨rfl, hB⟩
          · have d3 : (T2 != 0) = true := bne_iff_ne.2 e3
            subst e2
            clear HP5 s2 e1 e3
            go_wp2_with fail
            go_ret
            exact ⟨rfl, hB⟩
        · have d2 : (S2 != 0) = true := bne_iff_ne.2 e2
          clear HP5 s2 e1 e2
          go_wp2_with fail
          go_ret
          exact ⟨rfl, hB⟩
      · have hR : (R2 == 3) = false := beq_eq_false_iff_ne.2 g2
        clear HP4 g2 s1 h7
        go_wp2_with fail
        clear y0 y1 yf z0 z1 zf
        go_at_call 7; refine (c8 _ _ h2).mono ?_; rintro e w10 ⟨u10, rfl, h10, hb10⟩
        replace hB := below2 hB hb10
        replace b0 := b0.keep hb10
        replace r0 := RowAt.below r0 hb10
        replace r1 := RowAt.below r1 hb10
        clear hb10 c8
        obtain ⟨y0, y1, yf⟩ := cells2 r0
        obtain ⟨z0, z1, zf⟩ := cells2 r1
        go_wp2_with fail
        clear y0 y1 yf z0 z1 zf
        go_at_call 7; refine (c9 _ b0).mono ?_; rintro e w11 ⟨u11, rfl, h11, hb11⟩
        replace hB := below2 hB hb11
        replace h10 := h10.keep hb11
        replace r0 := RowAt.below r0 hb11
        replace r1 := RowAt.below r1 hb11
        clear hb11 c9
        obtain ⟨y0, y1, yf⟩ := cells2 r0
        obtain ⟨z0, z1, zf⟩ := cells2 r1
        go_wp2_with fail
        clear y0 y1 yf z0 z1 zf
        go_at_call 7; refine (c10 _ _ h11).mono ?_; rintro e w12 ⟨u12, rfl, h12, hb12⟩
        replace hB := below2 hB hb12
        replace h10 := h10.keep hb12
        replace r0 := RowAt.below r0 hb12
        replace r1 := RowAt.below r1 hb12
        clear hb12 c10
        obtain ⟨y0, y1, yf⟩ := cells2 r0
        obtain ⟨z0, z1, zf⟩ := cells2 r1
        by_cases e1 : xa = ya
        · have d1 : (xa == ya) = true := by simpa using e1
          clear HP5 s2 e1
          go_wp2_with fail
          go_ret
          exact ⟨rfl, hB⟩
        have d1 : (xa == ya) = false := beq_eq_false_iff_ne.2 e1
        by_cases e2 : S2 = 0
        · by_cases e3 : T2 = 0
          · obtain ⟨q1, q2⟩ := HP5.out e2 e3 e1
            subst e2 e3 q1 q2
            clear HP5 e1
            go_wp2_with fail
            go_at_call 14; refine (s2 _ _ _ h10 h12).mono ?_; rintro e w13 ⟨rfl, hb13⟩
            replace hB := below2 hB hb13
            go_wp2_with fail
            go_ret
            exact ⟨rfl, hB⟩
          · have d3 : (T2 != 0) = true := bne_iff_ne.2 e3
            subst e2
            clear HP5 s2 e1 e3
            go_wp2_with fail
            go_ret
            exact ⟨rfl, hB⟩
        · have d2 : (S2 != 0) = true := bne_iff_ne.2 e2
          clear HP5 s2 e1 e2
          go_wp2_with fail
          go_ret
          exact ⟨rfl, hB⟩
    · have hix : (i != xa) = true := bne_iff_ne.2 g1
      obtain ⟨q1, q2⟩ := HP2.out g1
      subst q1 q2
      have n1 : (Q1 != Q1) = false := by simp
      have n2 : (Q2 != Q2) = false := by simp
      clear HP2 g1
      by_cases g2 : R2 = 3
      · have hKl := HP4.out g2
        subst g2 hKl
        clear HP4
        go_wp2_with fail
        clear y0 y1 yf z0 z1 zf
        go_at_call 14; refine (s1 _ _ _ h7 b0).mono ?_; rintro e w9 ⟨rfl, hb9⟩
        replace hB := below2 hB hb9
        replace b0 := b0.keep hb9
        replace h2 := h2.keep hb9
        replace r0 := RowAt.below r0 hb9
        replace r1 := RowAt.below r1 hb9
        clear hb9 s1 h7
        obtain ⟨y0, y1, yf⟩ := cells2 r0
        obtain ⟨z0, z1, zf⟩ := cells2 r1
        go_wp2_with fail
        clear y0 y1 yf z0 z1 zf
        go_at_call 7; refine (c8 _ _ h2).mono ?_; rintro e w10 ⟨u10, rfl, h10, hb10⟩
        replace hB := below2 hB hb10
        replace b0 := b0.keep hb10
        replace r0 := RowAt.below r0 hb10
        replace r1 := RowAt.below r1 hb10
        clear hb10 c8
        obtain ⟨y0, y1, yf⟩ := cells2 r0
        obtain ⟨z0, z1, zf⟩ := cells2 r1
        go_wp2_with fail
        clear y0 y1 yf z0 z1 zf
        go_at_call 7; refine (c9 _ b0).mono ?_; rintro e w11 ⟨u11, rfl, h11, hb11⟩
        replace hB := below2 hB hb11
        replace h10 := h10.keep hb11
        replace r0 := RowAt.below r0 hb11
        replace r1 := RowAt.below r1 hb11
        clear hb11 c9
        obtain ⟨y0, y1, yf⟩ := cells2 r0
        obtain ⟨z0, z1, zf⟩ := cells2 r1
        go_wp2_with fail
        clear y0 y1 yf z0 z1 zf
        go_at_call 7; refine (c10 _ _ h11).mono ?_; rintro e w12 ⟨u12, rfl, h12, hb12⟩
        replace hB := below2 hB hb12
        replace h10 := h10.keep hb12
        replace r0 := RowAt.below r0 hb12
        replace r1 := RowAt.below r1 hb12
        clear hb12 c10
        obtain ⟨y0, y1, yf⟩ := cells2 r0
        obtain ⟨z0, z1, zf⟩ := cells2 r1
        by_cases e1 : xa = ya
        · have d1 : (xa == ya) = true := by simpa using e1
          clear HP5 s2 e1
          go_wp2_with fail
          go_ret
          exact ⟨rfl, hB⟩
        have d1 : (xa == ya) = false := beq_eq_false_iff_ne.2 e1
        by_cases e2 : S2 = 0
        · by_cases e3 : T2 = 0
          · obtain ⟨q1, q2⟩ := HP5.out e2 e3 e1
            subst e2 e3 q1 q2
            clear HP5 e1
            go_wp2_with fail
            go_at_call 14; refine (s2 _ _ _ h10 h12).mono ?_; rintro e w13 ⟨rfl, hb13⟩
            replace hB := below2 hB hb13
            go_wp2_with fail
            go_ret
            exact ⟨rfl, hB⟩
          · have d3 : (T2 != 0) = true := bne_iff_ne.2 e3
            subst e2
            clear HP5 s2 e1 e3
            go_wp2_with fail
            go_ret
            exact ⟨rfl, hB⟩
        · have d2 : (S2 != 0) = true := bne_iff_ne.2 e2
          clear HP5 s2 e1 e2
          go_wp2_with fail
          go_ret
          exact ⟨rfl, hB⟩
      · have hR : (R2 == 3) = false := beq_eq_false_iff_ne.2 g2
        clear HP4 g2 s1 h7
        go_wp2_with fail
        clear y0 y1 yf z0 z1 zf
        go_at_call 7; refine (c8 _ _ h2).mono ?_; rintro e w10 ⟨u10, rfl, h10, hb10⟩
        replace hB := below2 hB hb10
        replace b0 := b0.keep hb10
        replace r0 := RowAt.below r0 hb10
        replace r1 := RowAt.below r1 hb10
        clear hb10 c8
        obtain ⟨y0, y1, yf⟩ := cells2 r0
        obtain ⟨z0, z1, zf⟩ := cells2 r1
        go_wp2_with fail
        clear y0 y1 yf z0 z1 zf
        go_at_call 7; refine (c9 _ b0).mono ?_; rintro e w11 ⟨u11, rfl, h11, hb11⟩
        replace hB := below2 hB hb11
        replace h10 := h10.keep hb11
        replace r0 := RowAt.below r0 hb11
        replace r1 := RowAt.below r1 hb11
        clear hb11 c9
        obtain ⟨y0, y1, yf⟩ := cells2 r0
        obtain ⟨z0, z1, zf⟩ := cells2 r1
        go_wp2_with fail
        clear y0 y1 yf z0 z1 zf
        go_at_call 7; refine (c10 _ _ h11).mono ?_; rintro e w12 ⟨u12, rfl, h12, hb12⟩
        replace hB := below2 hB hb12
        replace h10 := h10.keep hb12
        replace r0 := RowAt.below r0 hb12
        replace r1 := RowAt.below r1 hb12
        clear hb12 c10
        obtain ⟨y0, y1, yf⟩ := cells2 r0
        obtain ⟨z0, z1, zf⟩ := cells2 r1
        by_cases e1 : xa = ya
        · have d1 : (xa == ya) = true := by simpa using e1
          clear HP5 s2 e1
          go_wp2_with fail
          go_ret
          exact ⟨rfl, hB⟩
        have d1 : (xa == ya) = false := beq_eq_false_iff_ne.2 e1
        by_cases e2 : S2 = 0
        · by_cases e3 : T2 = 0
          · obtain ⟨q1, q2⟩ := HP5.out e2 e3 e1
            subst e2 e3 q1 q2
            clear HP5 e1
            go_wp2_with fail
            go_at_call 14; refine (s2 _ _ _ h10 h12).mono ?_; rintro e w13 ⟨rfl, hb13⟩
            replace hB := below2 hB hb13
            go_wp2_with fail
            go_ret
            exact ⟨rfl, hB⟩
          · have d3 : (T2 != 0) = true := bne_iff_ne.2 e3
            subst e2
            clear HP5 s2 e1 e3
            go_wp2_with fail
            go_ret
            exact ⟨rfl, hB⟩
        · have d2 : (S2 != 0) = true := bne_iff_ne.2 e2
          clear HP5 s2 e1 e2
          go_wp2_with fail
          go_ret
          exact ⟨rfl, hB⟩
  · have hn := put_not h0
    have s1 := fun (W : World) u u' => same_any l u u' W
    generalize (putL l x).1 = M at *
    generalize (putL l x).2 = P at *
    generalize x.iface = xa at *
    generalize x.peer = xb at *
    generalize y.iface = ya at *
    generalize y.peer = yb at *
    clear h0
    go_enter Try.func5, Try.ntmps5
    go_upto_region 1 with fail
    rw [← hX]
    clear hX r1
    replace b0 := b0.keep hB
    go_wp2_with fail
    go_at_call 11; refine (c0 _).mono ?_; rintro e w1 ⟨rfl, hb1⟩
    replace hB := below2 hB hb1
    replace b0 := b0.keep hb1
    replace r0 := RowAt.below r0 hb1
    obtain ⟨y0, y1, yf⟩ := cells2 r0
    clear hb1 c0 r0
    go_wp2_with fail
    clear y0 y1 yf
    go_at_call 7; refine (c1 _ b0).mono ?_; rintro e w2 ⟨u2, rfl, h2, hb2⟩
    replace hB := below2 hB hb2
    replace b0 := b0.keep hb2
    clear hb2 c1
    rcases hn with rfl | ⟨rfl, rfl⟩
    · clear s1
      go_wp2_with fail
      go_ret
      exact ⟨rfl, hB⟩
    · go_wp2_with fail
      go_at_call 14; refine (s1 _ _ _ h2 b0).mono ?_; rintro e w3 ⟨rfl, hb3⟩
      replace hB := below2 hB hb3
      go_wp2_with fail
      go_ret
      exact ⟨rfl, hB⟩
set_option maxRecDepth 100000 in
theorem lifted (os : Os) (started : os.Started) (H : Type) (enc : TypeId × Value → H) :
    ReturnsInHanded {} Try.checked os 5 .any (Rows.linksFoundSpec.pre6 enc Try.prog Try.f5 Rows.linksFoundRow.domain false) (Rows.linksFoundSpec.post enc Try.prog Try.f5 false true false false) := by
  refine returnsInHanded_of_change_sized (C := Try.checked) own started (by kernel_rfl) Try.func5
    (ChangeSpec.witness6 (enc := enc) (C := Try.checked) false ⟨#[], #[.slice none 0 0, .agg #[.int .i64 0, .int .i64 0], .agg #[.int .i64 0, .int .i64 0], .int .i64 0], []⟩ 8 (by kernel_rfl) (by kernel_rfl) (by kernel_rfl) (by kernel_rfl)) ?_
  intro W base args ds gs before hval0 hW _ hsz0 _
  have hsz : (DataW.weightsEach Try.prog (Try.f5.params.toList ++ Rows.linksFoundSpec.plain.varTypes Try.prog) (ds ++ gs)).all (· ≤ reachBytes) = true := hsz0
  clear hsz0
  have hval : ∀ (j : Nat) t v, Try.f5.params[j]? = some t → args[j]? = some v → Value.okWide Try.prog W .any base t v := hval0
  have hW' := hW
  obtain ⟨p, q, hA0, hV, rfl, hfz, hnd⟩ := hW
  have hA : DataW.TrodAll enc Try.prog W 0 (fun _ => true) true Try.f5.params.toList args.toList ds p := hA0
  rw [Try.params5] at hA hval hsz
  obtain ⟨v0, vs0, d0, ds0, p0, q0, hargs, rfl, rfl, h0, r0⟩ := trodAll_cons hA
  obtain ⟨v1, vs1, d1, ds1, p1, q1, rfl, rfl, rfl, h1, r1⟩ := trodAll_cons r0
  obtain ⟨v2, vs2, d2, ds2, p2, q2, rfl, rfl, rfl, h2, r2⟩ := trodAll_cons r1
  obtain ⟨v3, vs3, d3, ds3, p3, q3, rfl, rfl, rfl, h3, r3⟩ := trodAll_cons r2
  obtain ⟨rfl, rfl, rfl⟩ := trodAll_nil r3
  obtain rfl : args = #[v0, v1, v2, v3] := by cases args; simp_all
  obtain ⟨rfl, rfl⟩ := trodVars_none hV
  obtain ⟨a0, len0, cap0, rfl⟩ := okWide_slice Try.underlying22 (hval 0 22 v0 rfl rfl)
  have k0 := h0
  have lt0 : ∀ x ∈ p0, x.block < W.heap.size := by obtain ⟨m, hm⟩ := k0; exact DataW.trod_lt m _ _ _ hm
  obtain ⟨fuel0, hf0⟩ := h0
  obtain ⟨z0, b0, f0⟩ := Lk.open_links hf0
  have k1 := h1
  have lt1 : ∀ x ∈ p1, x.block < W.heap.size := by obtain ⟨m, hm⟩ := k1; exact DataW.trod_lt m _ _ _ hm
  obtain ⟨n1, rfl, b1⟩ := Lk.open_link (hval 1 24 v1 rfl rfl) h1
  have k2 := h2
  have lt2 : ∀ x ∈ p2, x.block < W.heap.size := by obtain ⟨m, hm⟩ := k2; exact DataW.trod_lt m _ _ _ hm
  obtain ⟨n2, rfl, b2⟩ := Lk.open_link (hval 2 24 v2 rfl rfl) h2
  obtain ⟨a3, rfl, rfl, rfl, w3⟩ := open_int Try.underlying3 (hval 3 3 v3 rfl rfl) h3
  have b3 : -9223372036854775808 ≤ a3 ∧ a3 ≤ 9223372036854775807 := by simpa [Lit.wf, IntKind.min, IntKind.max, IntKind.signed, IntKind.bits] using w3
  clear hA0 hval0
  refine (walk (.slice a0 len0 cap0) z0 n1 n2 a3 W b0 f0 b1 b2 b3).mono fun e W' ⟨he, bel⟩ => ?_
  subst he
  exact ⟨_, rfl, _, _, _, [], _, [], hW', trodAll_mk1 (shut_bool Try.underlying4 _), (trodAll_cons_mk (Below.trod laidOut (by kernel_rfl) (of_decide_eq_true (by kernel_rfl)) k0 bel lt0) (trodAll_cons_mk (Below.trod laidOut (by kernel_rfl) (of_decide_eq_true (by kernel_rfl)) k1 bel lt1) (trodAll_cons_mk (Below.trod laidOut (by kernel_rfl) (of_decide_eq_true (by kernel_rfl)) k2 bel lt2) (trodAll_cons_mk (shut_int Try.underlying3 w3) trodAll_mk0)))), rfl, bel.frame _, fun h => by cases h⟩

theorem over : Rows.linksFoundRow.holds Try.pinned (OpenSpec.ofChange Rows.linksFoundSpec) :=
  OpenClaim.holds_of_wide 5 Try.f5 rfl rfl rfl rfl rfl rfl rfl ⟨rfl, rfl, rfl, rfl, rfl⟩ rfl rfl rfl rfl rfl (by kernel_rfl) Try.func5 (by kernel_rfl)
    (of_decide_eq_true (by kernel_rfl)) (by unfold Func.isWrapper; first | (rw [if_pos (by decide +kernel)]; kernel_rfl) | (rw [if_neg (by decide +kernel)]; exact ⟨rfl, rfl⟩))
    (fun os started H enc _ => lifted os started H enc)
end linksFound
theorem lfound_holds : Rows.LinksFoundSaid := linksFound.over
#print axioms lfound_holds
end Go.Proofs.Ytedgmnnbmonhkaa
