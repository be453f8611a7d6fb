/- For all routes, two routes and a prefix: spoorlaw15.TrieFound returns true, and changes nothing that was there. No condition. -/
import Derived.Test.YtjgieaijdkmadaaRows
import Derived.Test.YtjgieaijdkmadaaTqF
import Derived.Test.YtjgieaijdkmadaaTqD
import Derived.ProofKit
import Derived.OpenShut
import Derived.ShutString
import Derived.SizedLaws
set_option linter.unusedVariables false
namespace Go.Proofs.Ytjgieaijdkmadaa
namespace trieFound
open Go.ChangeShapes Go.WideShapes Go.ChangeAt Go.RowKit
open Go.ChangeMaps (open_string shut_string)
open Go.Proofs.Ytjgieaijdkmadaa.Tr
open Go.Proofs.Ytjgieaijdkmadaa.Tl (BoolIs lives_any)
open Go.Proofs.Ytjgieaijdkmadaa.Ct (HasAds HasAds.keep cutsT HasAds.cell)
open Go.Proofs.Ytjgieaijdkmadaa.Msg (eqP eqP_iff eqP_not pf_neq pf_eqb Ac FitA)
open Go.Proofs.Ytjgieaijdkmadaa.Addr (Pf pfV adV hasB coversB hiN loN rightB cmpN RowAt below2 below_drew below_new bset RowAt.lt RowAt.cell RowAt.frozen RowAt.below RowAt.drew RowAt.new RowAt.alloc RowAt.gkeep cells2 cells4)
theorem own : ownKnob Try.prog.godebug = none := by kernel_rfl
theorem laidOut : laidOutB Try.prog = true := by kernel_rfl
set_option maxHeartbeats 16000000 in
set_option maxRecDepth 20000 in
theorem walk2 (rA : Bool) (rB rC rD rE rF : Int) (sA : Bool) (sB sC sD sE sF : Int) (pA : Bool) (pB pC pD : Int) (l A : List Rt) (o : Option Addr) (n c : Nat) (w : World) (h0 : HasRts w (.slice o n c) l) (hA : Hid (True))
    (c1 : ∀ W v, HasRts W v l → Calls Try.prog 9 #[v, .agg #[.bool rA, .int .u64 rB, .int .u64 rC, .int .i64 rD, .int .u8 rE, .int .i64 rF]] W fun e w' => ∃ u, e = .returned (.tuple #[u, .int .i64 2]) ∧ HasRts w' u A ∧ Below W.heap.size W w') :
    Calls Try.prog 5 #[.slice o n c, .agg #[.bool rA, .int .u64 rB, .int .u64 rC, .int .i64 rD, .int .u8 rE, .int .i64 rF], .agg #[.bool sA, .int .u64 sB, .int .u64 sC, .int .i64 sD, .int .u8 sE, .int .i64 sF], .agg #[.bool pA, .int .u64 pB, .int .u64 pC, .int .i64 pD]] w (BoolIs true w) := by
  have hB := Below.refl w.heap.size w
  go_enter Try.func5, Try.ntmps5
  obtain ⟨Y1, hY⟩ : ∃ Y, Y = (((w.alloc (.cells #[.bool rA, .int .u64 rB, .int .u64 rC, .int .i64 rD, .int .u8 rE, .int .i64 rF] 32)).alloc (.cells #[.bool sA, .int .u64 sB, .int .u64 sC, .int .i64 sD, .int .u8 sE, .int .i64 sF] 32)).alloc (.cells #[.bool pA, .int .u64 pB, .int .u64 pC, .int .i64 pD] 27)) := ⟨_, rfl⟩
  have hbY : Below w.heap.size w Y1 := by rw [hY]; exact below_new (below_new (below_new (Below.refl _ _) _) _) _
  have hle : w.heap.size ≤ w.heap.size := hB.size
  obtain ⟨gr, hgr⟩ : ∃ g, g = w.heap.size := ⟨_, rfl⟩
  have rr : RowAt Y1 gr [.bool rA, .int .u64 rB, .int .u64 rC, .int .i64 rD, .int .u8 rE, .int .i64 rF] 32 := by
    have h := ((RowAt.new w [.bool rA, .int .u64 rB, .int .u64 rC, .int .i64 rD, .int .u8 rE, .int .i64 rF] 32).alloc (.cells #[.bool sA, .int .u64 sB, .int .u64 sC, .int .i64 sD, .int .u8 sE, .int .i64 sF] 32)).alloc (.cells #[.bool pA, .int .u64 pB, .int .u64 pC, .int .i64 pD] 27)
    rw [hgr, hY]; exact h
  have ler : w.heap.size ≤ gr := by omega
  obtain ⟨gs, hgs⟩ : ∃ g, g = w.heap.size + 1 := ⟨_, rfl⟩
  have rs : RowAt Y1 gs [.bool sA, .int .u64 sB, .int .u64 sC, .int .i64 sD, .int .u8 sE, .int .i64 sF] 32 := by
    have h := (RowAt.new (w.alloc (.cells #[.bool rA, .int .u64 rB, .int .u64 rC, .int .i64 rD, .int .u8 rE, .int .i64 rF] 32)) [.bool sA, .int .u64 sB, .int .u64 sC, .int .i64 sD, .int .u8 sE, .int .i64 sF] 32).alloc (.cells #[.bool pA, .int .u64 pB, .int .u64 pC, .int .i64 pD] 27)
    simp only [World.size_alloc] at h
    rw [hgs, hY]; exact h
  have les : w.heap.size ≤ gs := by omega
  have ners : gr ≠ gs := by omega
  obtain ⟨gp, hgp⟩ : ∃ g, g = w.heap.size + 1 + 1 := ⟨_, rfl⟩
  have rp : RowAt Y1 gp [.bool pA, .int .u64 pB, .int .u64 pC, .int .i64 pD] 27 := by
    have h := RowAt.new ((w.alloc (.cells #[.bool rA, .int .u64 rB, .int .u64 rC, .int .i64 rD, .int .u8 rE, .int .i64 rF] 32)).alloc (.cells #[.bool sA, .int .u64 sB, .int .u64 sC, .int .i64 sD, .int .u8 sE, .int .i64 sF] 32)) [.bool pA, .int .u64 pB, .int .u64 pC, .int .i64 pD] 27
    simp only [World.size_alloc] at h
    rw [hgp, hY]; exact h
  have lep : w.heap.size ≤ gp := by omega
  have nerp : gr ≠ gp := by omega
  have nesp : gs ≠ gp := by omega
  replace h0 := h0.keep hbY
  replace hB := below2 hB hbY
  go_upto_region 1 with fail
  rw [← hY, ← hgp, ← hgs, ← hgr]
  clear hY hbY hle hgr hgs hgp
  go_wp2_with fail
  go_at_call 15; refine (lives_any _).mono ?_; rintro e w2 ⟨rfl, hb⟩
  replace rr := RowAt.below rr hb
  replace rs := RowAt.below rs hb
  replace rp := RowAt.below rp hb
  replace h0 := h0.keep hb
  replace hB := below2 hB hb
  clear hb
  have r0 := RowAt.cell rr 0
  have r1 := RowAt.cell rr 1
  have r2 := RowAt.cell rr 2
  have r3 := RowAt.cell rr 3
  have r4 := RowAt.cell rr 4
  have r5 := RowAt.cell rr 5
  have rf := RowAt.frozen rr
  simp only [List.getElem?_cons_succ, List.getElem?_cons_zero] at r0 r1 r2 r3 r4 r5
  go_wp2_with fail
  clear r0 r1 r2 r3 r4 r5 rf
  go_at_call 9; refine (c1 _ _ h0).mono ?_; rintro e w3 ⟨u1, rfl, h1, hb⟩
  replace rr := RowAt.below rr hb
  replace rs := RowAt.below rs hb
  replace rp := RowAt.below rp hb
  replace h0 := h0.keep hb
  replace hB := below2 hB hb
  clear hb
  go_wp2_with fail
  go_ret
  exact ⟨rfl, hB⟩
set_option maxHeartbeats 16000000 in
set_option maxRecDepth 20000 in
theorem walk8 (rA : Bool) (rB rC rD rE rF : Int) (sA : Bool) (sB sC sD sE sF : Int) (pA : Bool) (pB pC pD : Int) (l A : List Rt) (o : Option Addr) (n c : Nat) (w : World) (h0 : HasRts w (.slice o n c) l) (hA : Hid (A = l))
    (c1 : ∀ W v, HasRts W v l → Calls Try.prog 9 #[v, .agg #[.bool rA, .int .u64 rB, .int .u64 rC, .int .i64 rD, .int .u8 rE, .int .i64 rF]] W fun e w' => ∃ u, e = .returned (.tuple #[u, .int .i64 8]) ∧ HasRts w' u A ∧ Below W.heap.size W w') :
    Calls Try.prog 5 #[.slice o n c, .agg #[.bool rA, .int .u64 rB, .int .u64 rC, .int .i64 rD, .int .u8 rE, .int .i64 rF], .agg #[.bool sA, .int .u64 sB, .int .u64 sC, .int .i64 sD, .int .u8 sE, .int .i64 sF], .agg #[.bool pA, .int .u64 pB, .int .u64 pC, .int .i64 pD]] w (BoolIs true w) := by
  have hB := Below.refl w.heap.size w
  go_enter Try.func5, Try.ntmps5
  obtain ⟨Y1, hY⟩ : ∃ Y, Y = (((w.alloc (.cells #[.bool rA, .int .u64 rB, .int .u64 rC, .int .i64 rD, .int .u8 rE, .int .i64 rF] 32)).alloc (.cells #[.bool sA, .int .u64 sB, .int .u64 sC, .int .i64 sD, .int .u8 sE, .int .i64 sF] 32)).alloc (.cells #[.bool pA, .int .u64 pB, .int .u64 pC, .int .i64 pD] 27)) := ⟨_, rfl⟩
  have hbY : Below w.heap.size w Y1 := by rw [hY]; exact below_new (below_new (below_new (Below.refl _ _) _) _) _
  have hle : w.heap.size ≤ w.heap.size := hB.size
  obtain ⟨gr, hgr⟩ : ∃ g, g = w.heap.size := ⟨_, rfl⟩
  have rr : RowAt Y1 gr [.bool rA, .int .u64 rB, .int .u64 rC, .int .i64 rD, .int .u8 rE, .int .i64 rF] 32 := by
    have h := ((RowAt.new w [.bool rA, .int .u64 rB, .int .u64 rC, .int .i64 rD, .int .u8 rE, .int .i64 rF] 32).alloc (.cells #[.bool sA, .int .u64 sB, .int .u64 sC, .int .i64 sD, .int .u8 sE, .int .i64 sF] 32)).alloc (.cells #[.bool pA, .int .u64 pB, .int .u64 pC, .int .i64 pD] 27)
    rw [hgr, hY]; exact h
  have ler : w.heap.size ≤ gr := by omega
  obtain ⟨gs, hgs⟩ : ∃ g, g = w.heap.size + 1 := ⟨_, rfl⟩
  have rs : RowAt Y1 gs [.bool sA, .int .u64 sB, .int .u64 sC, .int .i64 sD, .int .u8 sE, .int .i64 sF] 32 := by
    have h := (RowAt.new (w.alloc (.cells #[.bool rA, .int .u64 rB, .int .u64 rC, .int .i64 rD, .int .u8 rE, .int .i64 rF] 32)) [.bool sA, .int .u64 sB, .int .u64 sC, .int .i64 sD, .int .u8 sE, .int .i64 sF] 32).alloc (.cells #[.bool pA, .int .u64 pB, .int .u64 pC, .int .i64 pD] 27)
    simp only [World.size_alloc] at h
    rw [hgs, hY]; exact h
  have les : w.heap.size ≤ gs := by omega
  have ners : gr ≠ gs := by omega
  obtain ⟨gp, hgp⟩ : ∃ g, g = w.heap.size + 1 + 1 := ⟨_, rfl⟩
  have rp : RowAt Y1 gp [.bool pA, .int .u64 pB, .int .u64 pC, .int .i64 pD] 27 := by
    have h := RowAt.new ((w.alloc (.cells #[.bool rA, .int .u64 rB, .int .u64 rC, .int .i64 rD, .int .u8 rE, .int .i64 rF] 32)).alloc (.cells #[.bool sA, .int .u64 sB, .int .u64 sC, .int .i64 sD, .int .u8 sE, .int .i64 sF] 32)) [.bool pA, .int .u64 pB, .int .u64 pC, .int .i64 pD] 27
    simp only [World.size_alloc] at h
    rw [hgp, hY]; exact h
  have lep : w.heap.size ≤ gp := by omega
  have nerp : gr ≠ gp := by omega
  have nesp : gs ≠ gp := by omega
  replace h0 := h0.keep hbY
  replace hB := below2 hB hbY
  go_upto_region 1 with fail
  rw [← hY, ← hgp, ← hgs, ← hgr]
  clear hY hbY hle hgr hgs hgp
  go_wp2_with fail
  go_at_call 15; refine (lives_any _).mono ?_; rintro e w2 ⟨rfl, hb⟩
  replace rr := RowAt.below rr hb
  replace rs := RowAt.below rs hb
  replace rp := RowAt.below rp hb
  replace h0 := h0.keep hb
  replace hB := below2 hB hb
  clear hb
  have r0 := RowAt.cell rr 0
  have r1 := RowAt.cell rr 1
  have r2 := RowAt.cell rr 2
  have r3 := RowAt.cell rr 3
  have r4 := RowAt.cell rr 4
  have r5 := RowAt.cell rr 5
  have rf := RowAt.frozen rr
  simp only [List.getElem?_cons_succ, List.getElem?_cons_zero] at r0 r1 r2 r3 r4 r5
  go_wp2_with fail
  clear r0 r1 r2 r3 r4 r5 rf
  go_at_call 9; refine (c1 _ _ h0).mono ?_; rintro e w3 ⟨u1, rfl, h1, hb⟩
  replace rr := RowAt.below rr hb
  replace rs := RowAt.below rs hb
  replace rp := RowAt.below rp hb
  replace h0 := h0.keep hb
  replace hB := below2 hB hb
  clear hb
  have hA2 := hA.out
  subst hA2
  go_wp2_with fail
  go_at_call 18; refine (Tr.same_any _ _ _ _ h1 h0).mono ?_; rintro e w4 ⟨rfl, hb⟩
  replace rr := RowAt.below rr hb
  replace rs := RowAt.below rs hb
  replace rp := RowAt.below rp hb
  replace h0 := h0.keep hb
  replace h1 := h1.keep hb
  replace hB := below2 hB hb
  clear hb
  go_wp2_with fail
  go_ret
  exact ⟨rfl, hB⟩
set_option maxHeartbeats 32000000 in
set_option maxRecDepth 20000 in
theorem walk_t (rA : Bool) (rB rC rD rE rF : Int) (sA : Bool) (sB sC sD sE sF : Int) (pA : Bool) (pB pC pD : Int) (xA : Bool) (xB xC xD xE xF : Int) (yA : Bool) (yB yC yD yE yF : Int) (jA : Bool) (jB jC jD jE jF : Int) (z3 z4 z5 z6 z7 z8 z9 : Int) (l A K N O Q : List Rt) (o : Option Addr) (n c : Nat) (w : World) (h0 : HasRts w (.slice o n c) l)
    (c1 : ∀ W v, HasRts W v l → Calls Try.prog 9 #[v, .agg #[.bool rA, .int .u64 rB, .int .u64 rC, .int .i64 rD, .int .u8 rE, .int .i64 rF]] W fun e w' => ∃ u, e = .returned (.tuple #[u, .int .i64 0]) ∧ HasRts w' u A ∧ Below W.heap.size W w')
    (c2 : ∀ W v, HasRts W v A → Calls Try.prog 13 #[v, .agg #[.bool rA, .int .u64 rB, .int .u64 rC, .int .i64 rD]] W fun e w' => e = .returned (.tuple #[.agg #[.bool rA, .int .u64 rB, .int .u64 rC, .int .i64 rD, .int .u8 rE, .int .i64 rF], .int .i64 0]) ∧ Below W.heap.size W w') (c3 : ∀ W v, HasRts W v l → Calls Try.prog 13 #[v, .agg #[.bool pA, .int .u64 pB, .int .u64 pC, .int .i64 pD]] W fun e w' => e = .returned (.tuple #[.agg #[.bool xA, .int .u64 xB, .int .u64 xC, .int .i64 xD, .int .u8 xE, .int .i64 xF], .int .i64 z3]) ∧ Below W.heap.size W w') (c4 : ∀ W v, HasRts W v A → Calls Try.prog 13 #[v, .agg #[.bool pA, .int .u64 pB, .int .u64 pC, .int .i64 pD]] W fun e w' => e = .returned (.tuple #[.agg #[.bool yA, .int .u64 yB, .int .u64 yC, .int .i64 yD, .int .u8 yE, .int .i64 yF], .int .i64 z4]) ∧ Below W.heap.size W w')
    (c5 : ∀ W v, HasRts W v A → Calls Try.prog 16 #[v] W fun e w' => e = .returned (.int .i64 0) ∧ Below W.heap.size W w') (c6 : ∀ W v, HasRts W v l → Calls Try.prog 13 #[v, .agg #[.bool rA, .int .u64 rB, .int .u64 rC, .int .i64 rD]] W fun e w' => e = .returned (.tuple #[.agg #[.bool jA, .int .u64 jB, .int .u64 jC, .int .i64 jD, .int .u8 jE, .int .i64 jF], .int .i64 z5]) ∧ Below W.heap.size W w') (c7 : ∀ W v, HasRts W v A → Calls Try.prog 11 #[v, .agg #[.bool rA, .int .u64 rB, .int .u64 rC, .int .i64 rD]] W fun e w' => ∃ u, e = .returned (.tuple #[u, .int .i64 z6]) ∧ HasRts w' u K ∧ Below W.heap.size W w')
    (c8 : ∀ W v, HasRts W v A → Calls Try.prog 9 #[v, .agg #[.bool sA, .int .u64 sB, .int .u64 sC, .int .i64 sD, .int .u8 sE, .int .i64 sF]] W fun e w' => ∃ u, e = .returned (.tuple #[u, .int .i64 z7]) ∧ HasRts w' u N ∧ Below W.heap.size W w') (c9 : ∀ W v, HasRts W v l → Calls Try.prog 9 #[v, .agg #[.bool sA, .int .u64 sB, .int .u64 sC, .int .i64 sD, .int .u8 sE, .int .i64 sF]] W fun e w' => ∃ u, e = .returned (.tuple #[u, .int .i64 z8]) ∧ HasRts w' u O ∧ Below W.heap.size W w') (c10 : ∀ W v, HasRts W v O → Calls Try.prog 9 #[v, .agg #[.bool rA, .int .u64 rB, .int .u64 rC, .int .i64 rD, .int .u8 rE, .int .i64 rF]] W fun e w' => ∃ u, e = .returned (.tuple #[u, .int .i64 z9]) ∧ HasRts w' u Q ∧ Below W.heap.size W w')
    (hrr : ∀ W, (binOp .neq 32 (.agg #[.bool rA, .int .u64 rB, .int .u64 rC, .int .i64 rD, .int .u8 rE, .int .i64 rF]) (.agg #[.bool rA, .int .u64 rB, .int .u64 rC, .int .i64 rD, .int .u8 rE, .int .i64 rF])).run Try.prog W = .ok (.bool false) W)
    (hpr : ∀ W, (binOp .neq 27 (.agg #[.bool pA, .int .u64 pB, .int .u64 pC, .int .i64 pD]) (.agg #[.bool rA, .int .u64 rB, .int .u64 rC, .int .i64 rD])).run Try.prog W = .ok (.bool false) W)
    (hxx : ∀ W, (binOp .neq 32 (.agg #[.bool xA, .int .u64 xB, .int .u64 xC, .int .i64 xD, .int .u8 xE, .int .i64 xF]) (.agg #[.bool xA, .int .u64 xB, .int .u64 xC, .int .i64 xD, .int .u8 xE, .int .i64 xF])).run Try.prog W = .ok (.bool false) W)
    (HH : Hid (z5 = 0 ∨ (z5 = 3 ∧ z6 = 0 ∧ K = l)))
    (qs : Bool) (hsr : ∀ W, (binOp .eql 27 (.agg #[.bool sA, .int .u64 sB, .int .u64 sC, .int .i64 sD]) (.agg #[.bool rA, .int .u64 rB, .int .u64 rC, .int .i64 rD])).run Try.prog W = .ok (.bool qs) W)
    (HL : Hid (qs = true ∨ (qs = false ∧ (z7 = 2 ∨ z7 = 8)) ∨ (qs = false ∧ z7 = 0 ∧ (z8 = 2 ∨ z8 = 8)) ∨ (qs = false ∧ z7 = 0 ∧ z8 = 0 ∧ z9 = 0 ∧ Q = N))) :
    Calls Try.prog 5 #[.slice o n c, .agg #[.bool rA, .int .u64 rB, .int .u64 rC, .int .i64 rD, .int .u8 rE, .int .i64 rF], .agg #[.bool sA, .int .u64 sB, .int .u64 sC, .int .i64 sD, .int .u8 sE, .int .i64 sF], .agg #[.bool pA, .int .u64 pB, .int .u64 pC, .int .i64 pD]] w (BoolIs true w) := by
  have hB := Below.refl w.heap.size w
  go_enter Try.func5, Try.ntmps5
  obtain ⟨Y1, hY⟩ : ∃ Y, Y = (((w.alloc (.cells #[.bool rA, .int .u64 rB, .int .u64 rC, .int .i64 rD, .int .u8 rE, .int .i64 rF] 32)).alloc (.cells #[.bool sA, .int .u64 sB, .int .u64 sC, .int .i64 sD, .int .u8 sE, .int .i64 sF] 32)).alloc (.cells #[.bool pA, .int .u64 pB, .int .u64 pC, .int .i64 pD] 27)) := ⟨_, rfl⟩
  have hbY : Below w.heap.size w Y1 := by rw [hY]; exact below_new (below_new (below_new (Below.refl _ _) _) _) _
  have hle : w.heap.size ≤ w.heap.size := hB.size
  obtain ⟨gr, hgr⟩ : ∃ g, g = w.heap.size := ⟨_, rfl⟩
  have rr : RowAt Y1 gr [.bool rA, .int .u64 rB, .int .u64 rC, .int .i64 rD, .int .u8 rE, .int .i64 rF] 32 := by
    have h := ((RowAt.new w [.bool rA, .int .u64 rB, .int .u64 rC, .int .i64 rD, .int .u8 rE, .int .i64 rF] 32).alloc (.cells #[.bool sA, .int .u64 sB, .int .u64 sC, .int .i64 sD, .int .u8 sE, .int .i64 sF] 32)).alloc (.cells #[.bool pA, .int .u64 pB, .int .u64 pC, .int .i64 pD] 27)
    rw [hgr, hY]; exact h
  have ler : w.heap.size ≤ gr := by omega
  obtain ⟨gs, hgs⟩ : ∃ g, g = w.heap.size + 1 := ⟨_, rfl⟩
  have rs : RowAt Y1 gs [.bool sA, .int .u64 sB, .int .u64 sC, .int .i64 sD, .int .u8 sE, .int .i64 sF] 32 := by
    have h := (RowAt.new (w.alloc (.cells #[.bool rA, .int .u64 rB, .int .u64 rC, .int .i64 rD, .int .u8 rE, .int .i64 rF] 32)) [.bool sA, .int .u64 sB, .int .u64 sC, .int .i64 sD, .int .u8 sE, .int .i64 sF] 32).alloc (.cells #[.bool pA, .int .u64 pB, .int .u64 pC, .int .i64 pD] 27)
    simp only [World.size_alloc] at h
    rw [hgs, hY]; exact h
  have les : w.heap.size ≤ gs := by omega
  have ners : gr ≠ gs := by omega
  obtain ⟨gp, hgp⟩ : ∃ g, g = w.heap.size + 1 + 1 := ⟨_, rfl⟩
  have rp : RowAt Y1 gp [.bool pA, .int .u64 pB, .int .u64 pC, .int .i64 pD] 27 := by
    have h := RowAt.new ((w.alloc (.cells #[.bool rA, .int .u64 rB, .int .u64 rC, .int .i64 rD, .int .u8 rE, .int .i64 rF] 32)).alloc (.cells #[.bool sA, .int .u64 sB, .int .u64 sC, .int .i64 sD, .int .u8 sE, .int .i64 sF] 32)) [.bool pA, .int .u64 pB, .int .u64 pC, .int .i64 pD] 27
    simp only [World.size_alloc] at h
    rw [hgp, hY]; exact h
  have lep : w.heap.size ≤ gp := by omega
  have nerp : gr ≠ gp := by omega
  have nesp : gs ≠ gp := by omega
  replace h0 := h0.keep hbY
  replace hB := below2 hB hbY
  go_upto_region 1 with fail
  rw [← hY, ← hgp, ← hgs, ← hgr]
  clear hY hbY hle hgr hgs hgp
  go_wp2_with fail
  go_at_call 15; refine (lives_any _).mono ?_; rintro e w2 ⟨rfl, hb⟩
  replace rr := RowAt.below rr hb
  replace rs := RowAt.below rs hb
  replace rp := RowAt.below rp hb
  replace h0 := h0.keep hb
  replace hB := below2 hB hb
  clear hb
  have r0 := RowAt.cell rr 0
  have r1 := RowAt.cell rr 1
  have r2 := RowAt.cell rr 2
  have r3 := RowAt.cell rr 3
  have r4 := RowAt.cell rr 4
  have r5 := RowAt.cell rr 5
  have rf := RowAt.frozen rr
  simp only [List.getElem?_cons_succ, List.getElem?_cons_zero] at r0 r1 r2 r3 r4 r5
  go_wp2_with fail
  clear r0 r1 r2 r3 r4 r5 rf
  go_at_call 9; refine (c1 _ _ h0).mono ?_; rintro e w3 ⟨u1, rfl, h1, hb⟩
  replace rr := RowAt.below rr hb
  replace rs := RowAt.below rs hb
  replace rp := RowAt.below rp hb
  replace h0 := h0.keep hb
  replace hB := below2 hB hb
  clear hb
  have r0 := RowAt.cell rr 0
  have r1 := RowAt.cell rr 1
  have r2 := RowAt.cell rr 2
  have r3 := RowAt.cell rr 3
  have r4 := RowAt.cell rr 4
  have r5 := RowAt.cell rr 5
  have rf := RowAt.frozen rr
  simp only [List.getElem?_cons_succ, List.getElem?_cons_zero] at r0 r1 r2 r3 r4 r5
  go_wp2_with fail
  clear r0 r1 r2 r3 r4 r5 rf
  go_at_call 13; refine (c2 _ _ h1).mono ?_; rintro e w4 ⟨rfl, hb⟩
  replace rr := RowAt.below rr hb
  replace rs := RowAt.below rs hb
  replace rp := RowAt.below rp hb
  replace h0 := h0.keep hb
  replace h1 := h1.keep hb
  replace hB := below2 hB hb
  clear hb
  obtain ⟨Y5, hY⟩ : ∃ Y, Y = (w4.alloc (.cells #[.bool rA, .int .u64 rB, .int .u64 rC, .int .i64 rD, .int .u8 rE, .int .i64 rF] 32)) := ⟨_, rfl⟩
  have hbY : Below w4.heap.size w4 Y5 := by rw [hY]; exact below_new (Below.refl _ _) _
  have hle : w.heap.size ≤ w4.heap.size := hB.size
  obtain ⟨gx, hgx⟩ : ∃ g, g = w4.heap.size := ⟨_, rfl⟩
  have rx : RowAt Y5 gx [.bool rA, .int .u64 rB, .int .u64 rC, .int .i64 rD, .int .u8 rE, .int .i64 rF] 32 := by
    have h := RowAt.new w4 [.bool rA, .int .u64 rB, .int .u64 rC, .int .i64 rD, .int .u8 rE, .int .i64 rF] 32
    rw [hgx, hY]; exact h
  have lex : w.heap.size ≤ gx := by omega
  have nerx : gr ≠ gx := by have := RowAt.lt rr; omega
  have nesx : gs ≠ gx := by have := RowAt.lt rs; omega
  have nepx : gp ≠ gx := by have := RowAt.lt rp; omega
  replace rr := RowAt.below rr hbY
  replace rs := RowAt.below rs hbY
  replace rp := RowAt.below rp hbY
  replace h0 := h0.keep hbY
  replace h1 := h1.keep hbY
  replace hB := below2 hB hbY
  go_upto_region 7 with fail
  rw [← hY, ← hgx]
  clear hY hbY hle hgx
  obtain ⟨p0, p1, p2, p3, pf⟩ := cells4 rp
  go_wp2_with fail
  clear p0 p1 p2 p3 pf
  go_at_call 13; refine (c3 _ _ h0).mono ?_; rintro e w6 ⟨rfl, hb⟩
  replace rr := RowAt.below rr hb
  replace rs := RowAt.below rs hb
  replace rp := RowAt.below rp hb
  replace rx := RowAt.below rx hb
  replace h0 := h0.keep hb
  replace h1 := h1.keep hb
  replace hB := below2 hB hb
  clear hb
  obtain ⟨Y7, hY⟩ : ∃ Y, Y = (w6.alloc (.cells #[.bool xA, .int .u64 xB, .int .u64 xC, .int .i64 xD, .int .u8 xE, .int .i64 xF] 32)) := ⟨_, rfl⟩
  have hbY : Below w6.heap.size w6 Y7 := by rw [hY]; exact below_new (Below.refl _ _) _
  have hle : w.heap.size ≤ w6.heap.size := hB.size
  obtain ⟨ga, hga⟩ : ∃ g, g = w6.heap.size := ⟨_, rfl⟩
  have ra : RowAt Y7 ga [.bool xA, .int .u64 xB, .int .u64 xC, .int .i64 xD, .int .u8 xE, .int .i64 xF] 32 := by
    have h := RowAt.new w6 [.bool xA, .int .u64 xB, .int .u64 xC, .int .i64 xD, .int .u8 xE, .int .i64 xF] 32
    rw [hga, hY]; exact h
  have lea : w.heap.size ≤ ga := by omega
  have nera : gr ≠ ga := by have := RowAt.lt rr; omega
  have nesa : gs ≠ ga := by have := RowAt.lt rs; omega
  have nepa : gp ≠ ga := by have := RowAt.lt rp; omega
  have nexa : gx ≠ ga := by have := RowAt.lt rx; omega
  replace rr := RowAt.below rr hbY
  replace rs := RowAt.below rs hbY
  replace rp := RowAt.below rp hbY
  replace rx := RowAt.below rx hbY
  replace h0 := h0.keep hbY
  replace h1 := h1.keep hbY
  replace hB := below2 hB hbY
  go_upto_region 8 with fail
  rw [← hY, ← hga]
  clear hY hbY hle hga
  obtain ⟨p0, p1, p2, p3, pf⟩ := cells4 rp
  go_wp2_with fail
  clear p0 p1 p2 p3 pf
  go_at_call 13; refine (c4 _ _ h1).mono ?_; rintro e w8 ⟨rfl, hb⟩
  replace rr := RowAt.below rr hb
  replace rs := RowAt.below rs hb
  replace rp := RowAt.below rp hb
  replace rx := RowAt.below rx hb
  replace ra := RowAt.below ra hb
  replace h0 := h0.keep hb
  replace h1 := h1.keep hb
  replace hB := below2 hB hb
  clear hb
  obtain ⟨Y9, hY⟩ : ∃ Y, Y = (w8.alloc (.cells #[.bool yA, .int .u64 yB, .int .u64 yC, .int .i64 yD, .int .u8 yE, .int .i64 yF] 32)) := ⟨_, rfl⟩
  have hbY : Below w8.heap.size w8 Y9 := by rw [hY]; exact below_new (Below.refl _ _) _
  have hle : w.heap.size ≤ w8.heap.size := hB.size
  obtain ⟨gb, hgb⟩ : ∃ g, g = w8.heap.size := ⟨_, rfl⟩
  have rb : RowAt Y9 gb [.bool yA, .int .u64 yB, .int .u64 yC, .int .i64 yD, .int .u8 yE, .int .i64 yF] 32 := by
    have h := RowAt.new w8 [.bool yA, .int .u64 yB, .int .u64 yC, .int .i64 yD, .int .u8 yE, .int .i64 yF] 32
    rw [hgb, hY]; exact h
  have leb : w.heap.size ≤ gb := by omega
  have nerb : gr ≠ gb := by have := RowAt.lt rr; omega
  have nesb : gs ≠ gb := by have := RowAt.lt rs; omega
  have nepb : gp ≠ gb := by have := RowAt.lt rp; omega
  have nexb : gx ≠ gb := by have := RowAt.lt rx; omega
  have neab : ga ≠ gb := by have := RowAt.lt ra; omega
  replace rr := RowAt.below rr hbY
  replace rs := RowAt.below rs hbY
  replace rp := RowAt.below rp hbY
  replace rx := RowAt.below rx hbY
  replace ra := RowAt.below ra hbY
  replace h0 := h0.keep hbY
  replace h1 := h1.keep hbY
  replace hB := below2 hB hbY
  go_upto_region 9 with fail
  rw [← hY, ← hgb]
  clear hY hbY hle hgb
  have x0 := RowAt.cell rx 0
  have x1 := RowAt.cell rx 1
  have x2 := RowAt.cell rx 2
  have x3 := RowAt.cell rx 3
  have x4 := RowAt.cell rx 4
  have x5 := RowAt.cell rx 5
  have xf := RowAt.frozen rx
  simp only [List.getElem?_cons_succ, List.getElem?_cons_zero] at x0 x1 x2 x3 x4 x5
  have r0 := RowAt.cell rr 0
  have r1 := RowAt.cell rr 1
  have r2 := RowAt.cell rr 2
  have r3 := RowAt.cell rr 3
  have r4 := RowAt.cell rr 4
  have r5 := RowAt.cell rr 5
  have rf := RowAt.frozen rr
  simp only [List.getElem?_cons_succ, List.getElem?_cons_zero] at r0 r1 r2 r3 r4 r5
  go_wp2_with fail
  clear x0 x1 x2 x3 x4 x5 xf r0 r1 r2 r3 r4 r5 rf
  go_at_call 16; refine (c5 _ _ h1).mono ?_; rintro e w10 ⟨rfl, hb⟩
  replace rr := RowAt.below rr hb
  replace rs := RowAt.below rs hb
  replace rp := RowAt.below rp hb
  replace rx := RowAt.below rx hb
  replace ra := RowAt.below ra hb
  replace rb := RowAt.below rb hb
  replace h0 := h0.keep hb
  replace h1 := h1.keep hb
  replace hB := below2 hB hb
  clear hb
  obtain ⟨p0, p1, p2, p3, pf⟩ := cells4 rp
  have r0 := RowAt.cell rr 0
  have r1 := RowAt.cell rr 1
  have r2 := RowAt.cell rr 2
  have r3 := RowAt.cell rr 3
  have r4 := RowAt.cell rr 4
  have r5 := RowAt.cell rr 5
  have rf := RowAt.frozen rr
  simp only [List.getElem?_cons_succ, List.getElem?_cons_zero] at r0 r1 r2 r3 r4 r5
  have a0 := RowAt.cell ra 0
  have a1 := RowAt.cell ra 1
  have a2 := RowAt.cell ra 2
  have a3 := RowAt.cell ra 3
  have a4 := RowAt.cell ra 4
  have a5 := RowAt.cell ra 5
  have af := RowAt.frozen ra
  simp only [List.getElem?_cons_succ, List.getElem?_cons_zero] at a0 a1 a2 a3 a4 a5
  have b0 := RowAt.cell rb 0
  have b1 := RowAt.cell rb 1
  have b2 := RowAt.cell rb 2
  have b3 := RowAt.cell rb 3
  have b4 := RowAt.cell rb 4
  have b5 := RowAt.cell rb 5
  have bf := RowAt.frozen rb
  simp only [List.getElem?_cons_succ, List.getElem?_cons_zero] at b0 b1 b2 b3 b4 b5
  go_wp2_with fail
  clear p0 p1 p2 p3 pf r0 r1 r2 r3 r4 r5 rf a0 a1 a2 a3 a4 a5 af b0 b1 b2 b3 b4 b5 bf
  go_at_call 13; refine (c6 _ _ h0).mono ?_; rintro e w11 ⟨rfl, hb⟩
  replace rr := RowAt.below rr hb
  replace rs := RowAt.below rs hb
  replace rp := RowAt.below rp hb
  replace rx := RowAt.below rx hb
  replace ra := RowAt.below ra hb
  replace rb := RowAt.below rb hb
  replace h0 := h0.keep hb
  replace h1 := h1.keep hb
  replace hB := below2 hB hb
  clear hb
  clear rx ra rb rp
  obtain ⟨Y12, hY⟩ : ∃ Y, Y = (w11.alloc (.cells #[.bool jA, .int .u64 jB, .int .u64 jC, .int .i64 jD, .int .u8 jE, .int .i64 jF] 32)) := ⟨_, rfl⟩
  have hbY : Below w11.heap.size w11 Y12 := by rw [hY]; exact below_new (Below.refl _ _) _
  have hle : w.heap.size ≤ w11.heap.size := hB.size
  obtain ⟨gj, hgj⟩ : ∃ g, g = w11.heap.size := ⟨_, rfl⟩
  have rj : RowAt Y12 gj [.bool jA, .int .u64 jB, .int .u64 jC, .int .i64 jD, .int .u8 jE, .int .i64 jF] 32 := by
    have h := RowAt.new w11 [.bool jA, .int .u64 jB, .int .u64 jC, .int .i64 jD, .int .u8 jE, .int .i64 jF] 32
    rw [hgj, hY]; exact h
  have lej : w.heap.size ≤ gj := by omega
  have nerj : gr ≠ gj := by have := RowAt.lt rr; omega
  have nesj : gs ≠ gj := by have := RowAt.lt rs; omega
  replace rr := RowAt.below rr hbY
  replace rs := RowAt.below rs hbY
  replace h0 := h0.keep hbY
  replace h1 := h1.keep hbY
  replace hB := below2 hB hbY
  go_upto_region 12 with fail
  rw [← hY, ← hgj]
  clear hY hbY hle hgj
  clear rj
  have r0 := RowAt.cell rr 0
  have r1 := RowAt.cell rr 1
  have r2 := RowAt.cell rr 2
  have r3 := RowAt.cell rr 3
  have r4 := RowAt.cell rr 4
  have r5 := RowAt.cell rr 5
  have rf := RowAt.frozen rr
  simp only [List.getElem?_cons_succ, List.getElem?_cons_zero] at r0 r1 r2 r3 r4 r5
  go_wp2_with fail
  clear r0 r1 r2 r3 r4 r5 rf
  go_at_call 11; refine (c7 _ _ h1).mono ?_; rintro e w13 ⟨u7, rfl, h7, hb⟩
  replace rr := RowAt.below rr hb
  replace rs := RowAt.below rs hb
  replace h0 := h0.keep hb
  replace h1 := h1.keep hb
  replace hB := below2 hB hb
  clear hb
  rcases HH.out with hz | ⟨hz, hz2, hz3⟩
  · subst hz
    clear h7
    have s0 := RowAt.cell rs 0
    have s1 := RowAt.cell rs 1
    have s2 := RowAt.cell rs 2
    have s3 := RowAt.cell rs 3
    have s4 := RowAt.cell rs 4
    have s5 := RowAt.cell rs 5
    have sf := RowAt.frozen rs
    simp only [List.getElem?_cons_succ, List.getElem?_cons_zero] at s0 s1 s2 s3 s4 s5
    go_wp2_with fail
    clear s0 s1 s2 s3 s4 s5 sf
    go_at_call 9; refine (c8 _ _ h1).mono ?_; rintro e w14 ⟨u8, rfl, h8, hb⟩
    replace rr := RowAt.below rr hb
    replace rs := RowAt.below rs hb
    replace h0 := h0.keep hb
    replace h1 := h1.keep hb
    replace hB := below2 hB hb
    clear hb
    have s0 := RowAt.cell rs 0
    have s1 := RowAt.cell rs 1
    have s2 := RowAt.cell rs 2
    have s3 := RowAt.cell rs 3
    have s4 := RowAt.cell rs 4
    have s5 := RowAt.cell rs 5
    have sf := RowAt.frozen rs
    simp only [List.getElem?_cons_succ, List.getElem?_cons_zero] at s0 s1 s2 s3 s4 s5
    go_wp2_with fail
    clear s0 s1 s2 s3 s4 s5 sf
    go_at_call 9; refine (c9 _ _ h0).mono ?_; rintro e w15 ⟨u9, rfl, h9, hb⟩
    replace rr := RowAt.below rr hb
    replace rs := RowAt.below rs hb
    replace h0 := h0.keep hb
    replace h1 := h1.keep hb
    replace h8 := h8.keep hb
    replace hB := below2 hB hb
    clear hb
    have r0 := RowAt.cell rr 0
    have r1 := RowAt.cell rr 1
    have r2 := RowAt.cell rr 2
    have r3 := RowAt.cell rr 3
    have r4 := RowAt.cell rr 4
    have r5 := RowAt.cell rr 5
    have rf := RowAt.frozen rr
    simp only [List.getElem?_cons_succ, List.getElem?_cons_zero] at r0 r1 r2 r3 r4 r5
    go_wp2_with fail
    clear r0 r1 r2 r3 r4 r5 rf
    go_at_call 9; refine (c10 _ _ h9).mono ?_; rintro e w16 ⟨u10, rfl, h10, hb⟩
    replace rr := RowAt.below rr hb
    replace rs := RowAt.below rs hb
    replace h0 := h0.keep hb
    replace h1 := h1.keep hb
    replace h8 := h8.keep hb
    replace h9 := h9.keep hb
    replace hB := below2 hB hb
    clear hb
    clear h1 h9 h0
    have r0 := RowAt.cell rr 0
    have r1 := RowAt.cell rr 1
    have r2 := RowAt.cell rr 2
    have r3 := RowAt.cell rr 3
    have r4 := RowAt.cell rr 4
    have r5 := RowAt.cell rr 5
    have rf := RowAt.frozen rr
    simp only [List.getElem?_cons_succ, List.getElem?_cons_zero] at r0 r1 r2 r3 r4 r5
    have s0 := RowAt.cell rs 0
    have s1 := RowAt.cell rs 1
    have s2 := RowAt.cell rs 2
    have s3 := RowAt.cell rs 3
    have s4 := RowAt.cell rs 4
    have s5 := RowAt.cell rs 5
    have sf := RowAt.frozen rs
    simp only [List.getElem?_cons_succ, List.getElem?_cons_zero] at s0 s1 s2 s3 s4 s5
    rcases HL.out with e | ⟨e, e2 | e2⟩ | ⟨e, e3, e2 | e2⟩ | ⟨e, e3, e4, e5, e6⟩
    · subst e
      go_wp2_with fail
      go_ret
      exact ⟨rfl, hB⟩
    · subst e e2
      go_wp2_with fail
      go_ret
      exact ⟨rfl, hB⟩
    · subst e e2
      go_wp2_with fail
      go_ret
      exact ⟨rfl, hB⟩
    · subst e e3 e2
      go_wp2_with fail
      go_ret
      exact ⟨rfl, hB⟩
    · subst e e3 e2
      go_wp2_with fail
      go_ret
      exact ⟨rfl, hB⟩
    · subst e e3 e4 e5 e6
      go_wp2_with fail
      go_at_call 18; refine (Tr.same_any _ _ _ _ h8 h10).mono ?_; rintro e we ⟨rfl, hb⟩
      replace hB := below2 hB hb
      go_wp2_with fail
      go_ret
      exact ⟨rfl, hB⟩
  · subst hz hz2 hz3
    go_wp2_with fail
    go_at_call 18; refine (Tr.same_any _ _ _ _ h7 h0).mono ?_; rintro e w14 ⟨rfl, hb⟩
    replace rr := RowAt.below rr hb
    replace rs := RowAt.below rs hb
    replace h0 := h0.keep hb
    replace h1 := h1.keep hb
    replace h7 := h7.keep hb
    replace hB := below2 hB hb
    clear hb
    clear h7
    have s0 := RowAt.cell rs 0
    have s1 := RowAt.cell rs 1
    have s2 := RowAt.cell rs 2
    have s3 := RowAt.cell rs 3
    have s4 := RowAt.cell rs 4
    have s5 := RowAt.cell rs 5
    have sf := RowAt.frozen rs
    simp only [List.getElem?_cons_succ, List.getElem?_cons_zero] at s0 s1 s2 s3 s4 s5
    go_wp2_with fail
    clear s0 s1 s2 s3 s4 s5 sf
    go_at_call 9; refine (c8 _ _ h1).mono ?_; rintro e w15 ⟨u8, rfl, h8, hb⟩
    replace rr := RowAt.below rr hb
    replace rs := RowAt.below rs hb
    replace h0 := h0.keep hb
    replace h1 := h1.keep hb
    replace hB := below2 hB hb
    clear hb
    have s0 := RowAt.cell rs 0
    have s1 := RowAt.cell rs 1
    have s2 := RowAt.cell rs 2
    have s3 := RowAt.cell rs 3
    have s4 := RowAt.cell rs 4
    have s5 := RowAt.cell rs 5
    have sf := RowAt.frozen rs
    simp only [List.getElem?_cons_succ, List.getElem?_cons_zero] at s0 s1 s2 s3 s4 s5
    go_wp2_with fail
    clear s0 s1 s2 s3 s4 s5 sf
    go_at_call 9; refine (c9 _ _ h0).mono ?_; rintro e w16 ⟨u9, rfl, h9, hb⟩
    replace rr := RowAt.below rr hb
    replace rs := RowAt.below rs hb
    replace h0 := h0.keep hb
    replace h1 := h1.keep hb
    replace h8 := h8.keep hb
    replace hB := below2 hB hb
    clear hb
    have r0 := RowAt.cell rr 0
    have r1 := RowAt.cell rr 1
    have r2 := RowAt.cell rr 2
    have r3 := RowAt.cell rr 3
    have r4 := RowAt.cell rr 4
    have r5 := RowAt.cell rr 5
    have rf := RowAt.frozen rr
    simp only [List.getElem?_cons_succ, List.getElem?_cons_zero] at r0 r1 r2 r3 r4 r5
    go_wp2_with fail
    clear r0 r1 r2 r3 r4 r5 rf
    go_at_call 9; refine (c10 _ _ h9).mono ?_; rintro e w17 ⟨u10, rfl, h10, hb⟩
    replace rr := RowAt.below rr hb
    replace rs := RowAt.below rs hb
    replace h0 := h0.keep hb
    replace h1 := h1.keep hb
    replace h8 := h8.keep hb
    replace h9 := h9.keep hb
    replace hB := below2 hB hb
    clear hb
    clear h1 h9 h0
    have r0 := RowAt.cell rr 0
    have r1 := RowAt.cell rr 1
    have r2 := RowAt.cell rr 2
    have r3 := RowAt.cell rr 3
    have r4 := RowAt.cell rr 4
    have r5 := RowAt.cell rr 5
    have rf := RowAt.frozen rr
    simp only [List.getElem?_cons_succ, List.getElem?_cons_zero] at r0 r1 r2 r3 r4 r5
    have s0 := RowAt.cell rs 0
    have s1 := RowAt.cell rs 1
    have s2 := RowAt.cell rs 2
    have s3 := RowAt.cell rs 3
    have s4 := RowAt.cell rs 4
    have s5 := RowAt.cell rs 5
    have sf := RowAt.frozen rs
    simp only [List.getElem?_cons_succ, List.getElem?_cons_zero] at s0 s1 s2 s3 s4 s5
    rcases HL.out with e | ⟨e, e2 | e2⟩ | ⟨e, e3, e2 | e2⟩ | ⟨e, e3, e4, e5, e6⟩
    · subst e
      go_wp2_with fail
      go_ret
      exact ⟨rfl, hB⟩
    · subst e e2
      go_wp2_with fail
      go_ret
      exact ⟨rfl, hB⟩
    · subst e e2
      go_wp2_with fail
      go_ret
      exact ⟨rfl, hB⟩
    · subst e e3 e2
      go_wp2_with fail
      go_ret
      exact ⟨rfl, hB⟩
    · subst e e3 e2
      go_wp2_with fail
      go_ret
      exact ⟨rfl, hB⟩
    · subst e e3 e4 e5 e6
      go_wp2_with fail
      go_at_call 18; refine (Tr.same_any _ _ _ _ h8 h10).mono ?_; rintro e we ⟨rfl, hb⟩
      replace hB := below2 hB hb
      go_wp2_with fail
      go_ret
      exact ⟨rfl, hB⟩
set_option maxHeartbeats 32000000 in
set_option maxRecDepth 20000 in
theorem walk_f (rA : Bool) (rB rC rD rE rF : Int) (sA : Bool) (sB sC sD sE sF : Int) (pA : Bool) (pB pC pD : Int) (xA : Bool) (xB xC xD xE xF : Int) (yA : Bool) (yB yC yD yE yF : Int) (jA : Bool) (jB jC jD jE jF : Int) (z3 z4 z5 z6 z7 z8 z9 : Int) (l A K N O Q : List Rt) (o : Option Addr) (n c : Nat) (w : World) (h0 : HasRts w (.slice o n c) l)
    (c1 : ∀ W v, HasRts W v l → Calls Try.prog 9 #[v, .agg #[.bool rA, .int .u64 rB, .int .u64 rC, .int .i64 rD, .int .u8 rE, .int .i64 rF]] W fun e w' => ∃ u, e = .returned (.tuple #[u, .int .i64 0]) ∧ HasRts w' u A ∧ Below W.heap.size W w')
    (c2 : ∀ W v, HasRts W v A → Calls Try.prog 13 #[v, .agg #[.bool rA, .int .u64 rB, .int .u64 rC, .int .i64 rD]] W fun e w' => e = .returned (.tuple #[.agg #[.bool rA, .int .u64 rB, .int .u64 rC, .int .i64 rD, .int .u8 rE, .int .i64 rF], .int .i64 0]) ∧ Below W.heap.size W w') (c3 : ∀ W v, HasRts W v l → Calls Try.prog 13 #[v, .agg #[.bool pA, .int .u64 pB, .int .u64 pC, .int .i64 pD]] W fun e w' => e = .returned (.tuple #[.agg #[.bool xA, .int .u64 xB, .int .u64 xC, .int .i64 xD, .int .u8 xE, .int .i64 xF], .int .i64 z3]) ∧ Below W.heap.size W w') (c4 : ∀ W v, HasRts W v A → Calls Try.prog 13 #[v, .agg #[.bool pA, .int .u64 pB, .int .u64 pC, .int .i64 pD]] W fun e w' => e = .returned (.tuple #[.agg #[.bool xA, .int .u64 xB, .int .u64 xC, .int .i64 xD, .int .u8 xE, .int .i64 xF], .int .i64 z3]) ∧ Below W.heap.size W w')
    (c5 : ∀ W v, HasRts W v A → Calls Try.prog 16 #[v] W fun e w' => e = .returned (.int .i64 0) ∧ Below W.heap.size W w') (c6 : ∀ W v, HasRts W v l → Calls Try.prog 13 #[v, .agg #[.bool rA, .int .u64 rB, .int .u64 rC, .int .i64 rD]] W fun e w' => e = .returned (.tuple #[.agg #[.bool jA, .int .u64 jB, .int .u64 jC, .int .i64 jD, .int .u8 jE, .int .i64 jF], .int .i64 z5]) ∧ Below W.heap.size W w') (c7 : ∀ W v, HasRts W v A → Calls Try.prog 11 #[v, .agg #[.bool rA, .int .u64 rB, .int .u64 rC, .int .i64 rD]] W fun e w' => ∃ u, e = .returned (.tuple #[u, .int .i64 z6]) ∧ HasRts w' u K ∧ Below W.heap.size W w')
    (c8 : ∀ W v, HasRts W v A → Calls Try.prog 9 #[v, .agg #[.bool sA, .int .u64 sB, .int .u64 sC, .int .i64 sD, .int .u8 sE, .int .i64 sF]] W fun e w' => ∃ u, e = .returned (.tuple #[u, .int .i64 z7]) ∧ HasRts w' u N ∧ Below W.heap.size W w') (c9 : ∀ W v, HasRts W v l → Calls Try.prog 9 #[v, .agg #[.bool sA, .int .u64 sB, .int .u64 sC, .int .i64 sD, .int .u8 sE, .int .i64 sF]] W fun e w' => ∃ u, e = .returned (.tuple #[u, .int .i64 z8]) ∧ HasRts w' u O ∧ Below W.heap.size W w') (c10 : ∀ W v, HasRts W v O → Calls Try.prog 9 #[v, .agg #[.bool rA, .int .u64 rB, .int .u64 rC, .int .i64 rD, .int .u8 rE, .int .i64 rF]] W fun e w' => ∃ u, e = .returned (.tuple #[u, .int .i64 z9]) ∧ HasRts w' u Q ∧ Below W.heap.size W w')
    (hrr : ∀ W, (binOp .neq 32 (.agg #[.bool rA, .int .u64 rB, .int .u64 rC, .int .i64 rD, .int .u8 rE, .int .i64 rF]) (.agg #[.bool rA, .int .u64 rB, .int .u64 rC, .int .i64 rD, .int .u8 rE, .int .i64 rF])).run Try.prog W = .ok (.bool false) W)
    (hpr : ∀ W, (binOp .neq 27 (.agg #[.bool pA, .int .u64 pB, .int .u64 pC, .int .i64 pD]) (.agg #[.bool rA, .int .u64 rB, .int .u64 rC, .int .i64 rD])).run Try.prog W = .ok (.bool true) W)
    (hxx : ∀ W, (binOp .neq 32 (.agg #[.bool xA, .int .u64 xB, .int .u64 xC, .int .i64 xD, .int .u8 xE, .int .i64 xF]) (.agg #[.bool xA, .int .u64 xB, .int .u64 xC, .int .i64 xD, .int .u8 xE, .int .i64 xF])).run Try.prog W = .ok (.bool false) W)
    (HH : Hid (z5 = 0 ∨ (z5 = 3 ∧ z6 = 0 ∧ K = l)))
    (qs : Bool) (hsr : ∀ W, (binOp .eql 27 (.agg #[.bool sA, .int .u64 sB, .int .u64 sC, .int .i64 sD]) (.agg #[.bool rA, .int .u64 rB, .int .u64 rC, .int .i64 rD])).run Try.prog W = .ok (.bool qs) W)
    (HL : Hid (qs = true ∨ (qs = false ∧ (z7 = 2 ∨ z7 = 8)) ∨ (qs = false ∧ z7 = 0 ∧ (z8 = 2 ∨ z8 = 8)) ∨ (qs = false ∧ z7 = 0 ∧ z8 = 0 ∧ z9 = 0 ∧ Q = N))) :
    Calls Try.prog 5 #[.slice o n c, .agg #[.bool rA, .int .u64 rB, .int .u64 rC, .int .i64 rD, .int .u8 rE, .int .i64 rF], .agg #[.bool sA, .int .u64 sB, .int .u64 sC, .int .i64 sD, .int .u8 sE, .int .i64 sF], .agg #[.bool pA, .int .u64 pB, .int .u64 pC, .int .i64 pD]] w (BoolIs true w) := by
  have hB := Below.refl w.heap.size w
  go_enter Try.func5, Try.ntmps5
  obtain ⟨Y1, hY⟩ : ∃ Y, Y = (((w.alloc (.cells #[.bool rA, .int .u64 rB, .int .u64 rC, .int .i64 rD, .int .u8 rE, .int .i64 rF] 32)).alloc (.cells #[.bool sA, .int .u64 sB, .int .u64 sC, .int .i64 sD, .int .u8 sE, .int .i64 sF] 32)).alloc (.cells #[.bool pA, .int .u64 pB, .int .u64 pC, .int .i64 pD] 27)) := ⟨_, rfl⟩
  have hbY : Below w.heap.size w Y1 := by rw [hY]; exact below_new (below_new (below_new (Below.refl _ _) _) _) _
  have hle : w.heap.size ≤ w.heap.size := hB.size
  obtain ⟨gr, hgr⟩ : ∃ g, g = w.heap.size := ⟨_, rfl⟩
  have rr : RowAt Y1 gr [.bool rA, .int .u64 rB, .int .u64 rC, .int .i64 rD, .int .u8 rE, .int .i64 rF] 32 := by
    have h := ((RowAt.new w [.bool rA, .int .u64 rB, .int .u64 rC, .int .i64 rD, .int .u8 rE, .int .i64 rF] 32).alloc (.cells #[.bool sA, .int .u64 sB, .int .u64 sC, .int .i64 sD, .int .u8 sE, .int .i64 sF] 32)).alloc (.cells #[.bool pA, .int .u64 pB, .int .u64 pC, .int .i64 pD] 27)
    rw [hgr, hY]; exact h
  have ler : w.heap.size ≤ gr := by omega
  obtain ⟨gs, hgs⟩ : ∃ g, g = w.heap.size + 1 := ⟨_, rfl⟩
  have rs : RowAt Y1 gs [.bool sA, .int .u64 sB, .int .u64 sC, .int .i64 sD, .int .u8 sE, .int .i64 sF] 32 := by
    have h := (RowAt.new (w.alloc (.cells #[.bool rA, .int .u64 rB, .int .u64 rC, .int .i64 rD, .int .u8 rE, .int .i64 rF] 32)) [.bool sA, .int .u64 sB, .int .u64 sC, .int .i64 sD, .int .u8 sE, .int .i64 sF] 32).alloc (.cells #[.bool pA, .int .u64 pB, .int .u64 pC, .int .i64 pD] 27)
    simp only [World.size_alloc] at h
    rw [hgs, hY]; exact h
  have les : w.heap.size ≤ gs := by omega
  have ners : gr ≠ gs := by omega
  obtain ⟨gp, hgp⟩ : ∃ g, g = w.heap.size + 1 + 1 := ⟨_, rfl⟩
  have rp : RowAt Y1 gp [.bool pA, .int .u64 pB, .int .u64 pC, .int .i64 pD] 27 := by
    have h := RowAt.new ((w.alloc (.cells #[.bool rA, .int .u64 rB, .int .u64 rC, .int .i64 rD, .int .u8 rE, .int .i64 rF] 32)).alloc (.cells #[.bool sA, .int .u64 sB, .int .u64 sC, .int .i64 sD, .int .u8 sE, .int .i64 sF] 32)) [.bool pA, .int .u64 pB, .int .u64 pC, .int .i64 pD] 27
    simp only [World.size_alloc] at h
    rw [hgp, hY]; exact h
  have lep : w.heap.size ≤ gp := by omega
  have nerp : gr ≠ gp := by omega
  have nesp : gs ≠ gp := by omega
  replace h0 := h0.keep hbY
  replace hB := below2 hB hbY
  go_upto_region 1 with fail
  rw [← hY, ← hgp, ← hgs, ← hgr]
  clear hY hbY hle hgr hgs hgp
  go_wp2_with fail
  go_at_call 15; refine (lives_any _).mono ?_; rintro e w2 ⟨rfl, hb⟩
  replace rr := RowAt.below rr hb
  replace rs := RowAt.below rs hb
  replace rp := RowAt.below rp hb
  replace h0 := h0.keep hb
  replace hB := below2 hB hb
  clear hb
  have r0 := RowAt.cell rr 0
  have r1 := RowAt.cell rr 1
  have r2 := RowAt.cell rr 2
  have r3 := RowAt.cell rr 3
  have r4 := RowAt.cell rr 4
  have r5 := RowAt.cell rr 5
  have rf := RowAt.frozen rr
  simp only [List.getElem?_cons_succ, List.getElem?_cons_zero] at r0 r1 r2 r3 r4 r5
  go_wp2_with fail
  clear r0 r1 r2 r3 r4 r5 rf
  go_at_call 9; refine (c1 _ _ h0).mono ?_; rintro e w3 ⟨u1, rfl, h1, hb⟩
  replace rr := RowAt.below rr hb
  replace rs := RowAt.below rs hb
  replace rp := RowAt.below rp hb
  replace h0 := h0.keep hb
  replace hB := below2 hB hb
  clear hb
  have r0 := RowAt.cell rr 0
  have r1 := RowAt.cell rr 1
  have r2 := RowAt.cell rr 2
  have r3 := RowAt.cell rr 3
  have r4 := RowAt.cell rr 4
  have r5 := RowAt.cell rr 5
  have rf := RowAt.frozen rr
  simp only [List.getElem?_cons_succ, List.getElem?_cons_zero] at r0 r1 r2 r3 r4 r5
  go_wp2_with fail
  clear r0 r1 r2 r3 r4 r5 rf
  go_at_call 13; refine (c2 _ _ h1).mono ?_; rintro e w4 ⟨rfl, hb⟩
  replace rr := RowAt.below rr hb
  replace rs := RowAt.below rs hb
  replace rp := RowAt.below rp hb
  replace h0 := h0.keep hb
  replace h1 := h1.keep hb
  replace hB := below2 hB hb
  clear hb
  obtain ⟨Y5, hY⟩ : ∃ Y, Y = (w4.alloc (.cells #[.bool rA, .int .u64 rB, .int .u64 rC, .int .i64 rD, .int .u8 rE, .int .i64 rF] 32)) := ⟨_, rfl⟩
  have hbY : Below w4.heap.size w4 Y5 := by rw [hY]; exact below_new (Below.refl _ _) _
  have hle : w.heap.size ≤ w4.heap.size := hB.size
  obtain ⟨gx, hgx⟩ : ∃ g, g = w4.heap.size := ⟨_, rfl⟩
  have rx : RowAt Y5 gx [.bool rA, .int .u64 rB, .int .u64 rC, .int .i64 rD, .int .u8 rE, .int .i64 rF] 32 := by
    have h := RowAt.new w4 [.bool rA, .int .u64 rB, .int .u64 rC, .int .i64 rD, .int .u8 rE, .int .i64 rF] 32
    rw [hgx, hY]; exact h
  have lex : w.heap.size ≤ gx := by omega
  have nerx : gr ≠ gx := by have := RowAt.lt rr; omega
  have nesx : gs ≠ gx := by have := RowAt.lt rs; omega
  have nepx : gp ≠ gx := by have := RowAt.lt rp; omega
  replace rr := RowAt.below rr hbY
  replace rs := RowAt.below rs hbY
  replace rp := RowAt.below rp hbY
  replace h0 := h0.keep hbY
  replace h1 := h1.keep hbY
  replace hB := below2 hB hbY
  go_upto_region 7 with fail
  rw [← hY, ← hgx]
  clear hY hbY hle hgx
  obtain ⟨p0, p1, p2, p3, pf⟩ := cells4 rp
  go_wp2_with fail
  clear p0 p1 p2 p3 pf
  go_at_call 13; refine (c3 _ _ h0).mono ?_; rintro e w6 ⟨rfl, hb⟩
  replace rr := RowAt.below rr hb
  replace rs := RowAt.below rs hb
  replace rp := RowAt.below rp hb
  replace rx := RowAt.below rx hb
  replace h0 := h0.keep hb
  replace h1 := h1.keep hb
  replace hB := below2 hB hb
  clear hb
  obtain ⟨Y7, hY⟩ : ∃ Y, Y = (w6.alloc (.cells #[.bool xA, .int .u64 xB, .int .u64 xC, .int .i64 xD, .int .u8 xE, .int .i64 xF] 32)) := ⟨_, rfl⟩
  have hbY : Below w6.heap.size w6 Y7 := by rw [hY]; exact below_new (Below.refl _ _) _
  have hle : w.heap.size ≤ w6.heap.size := hB.size
  obtain ⟨ga, hga⟩ : ∃ g, g = w6.heap.size := ⟨_, rfl⟩
  have ra : RowAt Y7 ga [.bool xA, .int .u64 xB, .int .u64 xC, .int .i64 xD, .int .u8 xE, .int .i64 xF] 32 := by
    have h := RowAt.new w6 [.bool xA, .int .u64 xB, .int .u64 xC, .int .i64 xD, .int .u8 xE, .int .i64 xF] 32
    rw [hga, hY]; exact h
  have lea : w.heap.size ≤ ga := by omega
  have nera : gr ≠ ga := by have := RowAt.lt rr; omega
  have nesa : gs ≠ ga := by have := RowAt.lt rs; omega
  have nepa : gp ≠ ga := by have := RowAt.lt rp; omega
  have nexa : gx ≠ ga := by have := RowAt.lt rx; omega
  replace rr := RowAt.below rr hbY
  replace rs := RowAt.below rs hbY
  replace rp := RowAt.below rp hbY
  replace rx := RowAt.below rx hbY
  replace h0 := h0.keep hbY
  replace h1 := h1.keep hbY
  replace hB := below2 hB hbY
  go_upto_region 8 with fail
  rw [← hY, ← hga]
  clear hY hbY hle hga
  obtain ⟨p0, p1, p2, p3, pf⟩ := cells4 rp
  go_wp2_with fail
  clear p0 p1 p2 p3 pf
  go_at_call 13; refine (c4 _ _ h1).mono ?_; rintro e w8 ⟨rfl, hb⟩
  replace rr := RowAt.below rr hb
  replace rs := RowAt.below rs hb
  replace rp := RowAt.below rp hb
  replace rx := RowAt.below rx hb
  replace ra := RowAt.below ra hb
  replace h0 := h0.keep hb
  replace h1 := h1.keep hb
  replace hB := below2 hB hb
  clear hb
  obtain ⟨Y9, hY⟩ : ∃ Y, Y = (w8.alloc (.cells #[.bool xA, .int .u64 xB, .int .u64 xC, .int .i64 xD, .int .u8 xE, .int .i64 xF] 32)) := ⟨_, rfl⟩
  have hbY : Below w8.heap.size w8 Y9 := by rw [hY]; exact below_new (Below.refl _ _) _
  have hle : w.heap.size ≤ w8.heap.size := hB.size
  obtain ⟨gb, hgb⟩ : ∃ g, g = w8.heap.size := ⟨_, rfl⟩
  have rb : RowAt Y9 gb [.bool xA, .int .u64 xB, .int .u64 xC, .int .i64 xD, .int .u8 xE, .int .i64 xF] 32 := by
    have h := RowAt.new w8 [.bool xA, .int .u64 xB, .int .u64 xC, .int .i64 xD, .int .u8 xE, .int .i64 xF] 32
    rw [hgb, hY]; exact h
  have leb : w.heap.size ≤ gb := by omega
  have nerb : gr ≠ gb := by have := RowAt.lt rr; omega
  have nesb : gs ≠ gb := by have := RowAt.lt rs; omega
  have nepb : gp ≠ gb := by have := RowAt.lt rp; omega
  have nexb : gx ≠ gb := by have := RowAt.lt rx; omega
  have neab : ga ≠ gb := by have := RowAt.lt ra; omega
  replace rr := RowAt.below rr hbY
  replace rs := RowAt.below rs hbY
  replace rp := RowAt.below rp hbY
  replace rx := RowAt.below rx hbY
  replace ra := RowAt.below ra hbY
  replace h0 := h0.keep hbY
  replace h1 := h1.keep hbY
  replace hB := below2 hB hbY
  go_upto_region 9 with fail
  rw [← hY, ← hgb]
  clear hY hbY hle hgb
  have x0 := RowAt.cell rx 0
  have x1 := RowAt.cell rx 1
  have x2 := RowAt.cell rx 2
  have x3 := RowAt.cell rx 3
  have x4 := RowAt.cell rx 4
  have x5 := RowAt.cell rx 5
  have xf := RowAt.frozen rx
  simp only [List.getElem?_cons_succ, List.getElem?_cons_zero] at x0 x1 x2 x3 x4 x5
  have r0 := RowAt.cell rr 0
  have r1 := RowAt.cell rr 1
  have r2 := RowAt.cell rr 2
  have r3 := RowAt.cell rr 3
  have r4 := RowAt.cell rr 4
  have r5 := RowAt.cell rr 5
  have rf := RowAt.frozen rr
  simp only [List.getElem?_cons_succ, List.getElem?_cons_zero] at r0 r1 r2 r3 r4 r5
  go_wp2_with fail
  clear x0 x1 x2 x3 x4 x5 xf r0 r1 r2 r3 r4 r5 rf
  go_at_call 16; refine (c5 _ _ h1).mono ?_; rintro e w10 ⟨rfl, hb⟩
  replace rr := RowAt.below rr hb
  replace rs := RowAt.below rs hb
  replace rp := RowAt.below rp hb
  replace rx := RowAt.below rx hb
  replace ra := RowAt.below ra hb
  replace rb := RowAt.below rb hb
  replace h0 := h0.keep hb
  replace h1 := h1.keep hb
  replace hB := below2 hB hb
  clear hb
  obtain ⟨p0, p1, p2, p3, pf⟩ := cells4 rp
  have r0 := RowAt.cell rr 0
  have r1 := RowAt.cell rr 1
  have r2 := RowAt.cell rr 2
  have r3 := RowAt.cell rr 3
  have r4 := RowAt.cell rr 4
  have r5 := RowAt.cell rr 5
  have rf := RowAt.frozen rr
  simp only [List.getElem?_cons_succ, List.getElem?_cons_zero] at r0 r1 r2 r3 r4 r5
  have a0 := RowAt.cell ra 0
  have a1 := RowAt.cell ra 1
  have a2 := RowAt.cell ra 2
  have a3 := RowAt.cell ra 3
  have a4 := RowAt.cell ra 4
  have a5 := RowAt.cell ra 5
  have af := RowAt.frozen ra
  simp only [List.getElem?_cons_succ, List.getElem?_cons_zero] at a0 a1 a2 a3 a4 a5
  have b0 := RowAt.cell rb 0
  have b1 := RowAt.cell rb 1
  have b2 := RowAt.cell rb 2
  have b3 := RowAt.cell rb 3
  have b4 := RowAt.cell rb 4
  have b5 := RowAt.cell rb 5
  have bf := RowAt.frozen rb
  simp only [List.getElem?_cons_succ, List.getElem?_cons_zero] at b0 b1 b2 b3 b4 b5
  go_wp2_with fail
  clear p0 p1 p2 p3 pf r0 r1 r2 r3 r4 r5 rf a0 a1 a2 a3 a4 a5 af b0 b1 b2 b3 b4 b5 bf
  go_at_call 13; refine (c6 _ _ h0).mono ?_; rintro e w11 ⟨rfl, hb⟩
  replace rr := RowAt.below rr hb
  replace rs := RowAt.below rs hb
  replace rp := RowAt.below rp hb
  replace rx := RowAt.below rx hb
  replace ra := RowAt.below ra hb
  replace rb := RowAt.below rb hb
  replace h0 := h0.keep hb
  replace h1 := h1.keep hb
  replace hB := below2 hB hb
  clear hb
  clear rx ra rb rp
  obtain ⟨Y12, hY⟩ : ∃ Y, Y = (w11.alloc (.cells #[.bool jA, .int .u64 jB, .int .u64 jC, .int .i64 jD, .int .u8 jE, .int .i64 jF] 32)) := ⟨_, rfl⟩
  have hbY : Below w11.heap.size w11 Y12 := by rw [hY]; exact below_new (Below.refl _ _) _
  have hle : w.heap.size ≤ w11.heap.size := hB.size
  obtain ⟨gj, hgj⟩ : ∃ g, g = w11.heap.size := ⟨_, rfl⟩
  have rj : RowAt Y12 gj [.bool jA, .int .u64 jB, .int .u64 jC, .int .i64 jD, .int .u8 jE, .int .i64 jF] 32 := by
    have h := RowAt.new w11 [.bool jA, .int .u64 jB, .int .u64 jC, .int .i64 jD, .int .u8 jE, .int .i64 jF] 32
    rw [hgj, hY]; exact h
  have lej : w.heap.size ≤ gj := by omega
  have nerj : gr ≠ gj := by have := RowAt.lt rr; omega
  have nesj : gs ≠ gj := by have := RowAt.lt rs; omega
  replace rr := RowAt.below rr hbY
  replace rs := RowAt.below rs hbY
  replace h0 := h0.keep hbY
  replace h1 := h1.keep hbY
  replace hB := below2 hB hbY
  go_upto_region 12 with fail
  rw [← hY, ← hgj]
  clear hY hbY hle hgj
  clear rj
  have r0 := RowAt.cell rr 0
  have r1 := RowAt.cell rr 1
  have r2 := RowAt.cell rr 2
  have r3 := RowAt.cell rr 3
  have r4 := RowAt.cell rr 4
  have r5 := RowAt.cell rr 5
  have rf := RowAt.frozen rr
  simp only [List.getElem?_cons_succ, List.getElem?_cons_zero] at r0 r1 r2 r3 r4 r5
  go_wp2_with fail
  clear r0 r1 r2 r3 r4 r5 rf
  go_at_call 11; refine (c7 _ _ h1).mono ?_; rintro e w13 ⟨u7, rfl, h7, hb⟩
  replace rr := RowAt.below rr hb
  replace rs := RowAt.below rs hb
  replace h0 := h0.keep hb
  replace h1 := h1.keep hb
  replace hB := below2 hB hb
  clear hb
  rcases HH.out with hz | ⟨hz, hz2, hz3⟩
  · subst hz
    clear h7
    have s0 := RowAt.cell rs 0
    have s1 := RowAt.cell rs 1
    have s2 := RowAt.cell rs 2
    have s3 := RowAt.cell rs 3
    have s4 := RowAt.cell rs 4
    have s5 := RowAt.cell rs 5
    have sf := RowAt.frozen rs
    simp only [List.getElem?_cons_succ, List.getElem?_cons_zero] at s0 s1 s2 s3 s4 s5
    go_wp2_with fail
    clear s0 s1 s2 s3 s4 s5 sf
    go_at_call 9; refine (c8 _ _ h1).mono ?_; rintro e w14 ⟨u8, rfl, h8, hb⟩
    replace rr := RowAt.below rr hb
    replace rs := RowAt.below rs hb
    replace h0 := h0.keep hb
    replace h1 := h1.keep hb
    replace hB := below2 hB hb
    clear hb
    have s0 := RowAt.cell rs 0
    have s1 := RowAt.cell rs 1
    have s2 := RowAt.cell rs 2
    have s3 := RowAt.cell rs 3
    have s4 := RowAt.cell rs 4
    have s5 := RowAt.cell rs 5
    have sf := RowAt.frozen rs
    simp only [List.getElem?_cons_succ, List.getElem?_cons_zero] at s0 s1 s2 s3 s4 s5
    go_wp2_with fail
    clear s0 s1 s2 s3 s4 s5 sf
    go_at_call 9; refine (c9 _ _ h0).mono ?_; rintro e w15 ⟨u9, rfl, h9, hb⟩
    replace rr := RowAt.below rr hb
    replace rs := RowAt.below rs hb
    replace h0 := h0.keep hb
    replace h1 := h1.keep hb
    replace h8 := h8.keep hb
    replace hB := below2 hB hb
    clear hb
    have r0 := RowAt.cell rr 0
    have r1 := RowAt.cell rr 1
    have r2 := RowAt.cell rr 2
    have r3 := RowAt.cell rr 3
    have r4 := RowAt.cell rr 4
    have r5 := RowAt.cell rr 5
    have rf := RowAt.frozen rr
    simp only [List.getElem?_cons_succ, List.getElem?_cons_zero] at r0 r1 r2 r3 r4 r5
    go_wp2_with fail
    clear r0 r1 r2 r3 r4 r5 rf
    go_at_call 9; refine (c10 _ _ h9).mono ?_; rintro e w16 ⟨u10, rfl, h10, hb⟩
    replace rr := RowAt.below rr hb
    replace rs := RowAt.below rs hb
    replace h0 := h0.keep hb
    replace h1 := h1.keep hb
    replace h8 := h8.keep hb
    replace h9 := h9.keep hb
    replace hB := below2 hB hb
    clear hb
    clear h1 h9 h0
    have r0 := RowAt.cell rr 0
    have r1 := RowAt.cell rr 1
    have r2 := RowAt.cell rr 2
    have r3 := RowAt.cell rr 3
    have r4 := RowAt.cell rr 4
    have r5 := RowAt.cell rr 5
    have rf := RowAt.frozen rr
    simp only [List.getElem?_cons_succ, List.getElem?_cons_zero] at r0 r1 r2 r3 r4 r5
    have s0 := RowAt.cell rs 0
    have s1 := RowAt.cell rs 1
    have s2 := RowAt.cell rs 2
    have s3 := RowAt.cell rs 3
    have s4 := RowAt.cell rs 4
    have s5 := RowAt.cell rs 5
    have sf := RowAt.frozen rs
    simp only [List.getElem?_cons_succ, List.getElem?_cons_zero] at s0 s1 s2 s3 s4 s5
    rcases HL.out with e | ⟨e, e2 | e2⟩ | ⟨e, e3, e2 | e2⟩ | ⟨e, e3, e4, e5, e6⟩
    · subst e
      go_wp2_with fail
      go_ret
      exact ⟨rfl, hB⟩
    · subst e e2
      go_wp2_with fail
      go_ret
      exact ⟨rfl, hB⟩
    · subst e e2
      go_wp2_with fail
      go_ret
      exact ⟨rfl, hB⟩
    · subst e e3 e2
      go_wp2_with fail
      go_ret
      exact ⟨rfl, hB⟩
    · subst e e3 e2
      go_wp2_with fail
      go_ret
      exact ⟨rfl, hB⟩
    · subst e e3 e4 e5 e6
      go_wp2_with fail
      go_at_call 18; refine (Tr.same_any _ _ _ _ h8 h10).mono ?_; rintro e we ⟨rfl, hb⟩
      replace hB := below2 hB hb
      go_wp2_with fail
      go_ret
      exact ⟨rfl, hB⟩
  · subst hz hz2 hz3
    go_wp2_with fail
    go_at_call 18; refine (Tr.same_any _ _ _ _ h7 h0).mono ?_; rintro e w14 ⟨rfl, hb⟩
    replace rr := RowAt.below rr hb
    replace rs := RowAt.below rs hb
    replace h0 := h0.keep hb
    replace h1 := h1.keep hb
    replace h7 := h7.keep hb
    replace hB := below2 hB hb
    clear hb
    clear h7
    have s0 := RowAt.cell rs 0
    have s1 := RowAt.cell rs 1
    have s2 := RowAt.cell rs 2
    have s3 := RowAt.cell rs 3
    have s4 := RowAt.cell rs 4
    have s5 := RowAt.cell rs 5
    have sf := RowAt.frozen rs
    simp only [List.getElem?_cons_succ, List.getElem?_cons_zero] at s0 s1 s2 s3 s4 s5
    go_wp2_with fail
    clear s0 s1 s2 s3 s4 s5 sf
    go_at_call 9; refine (c8 _ _ h1).mono ?_; rintro e w15 ⟨u8, rfl, h8, hb⟩
    replace rr := RowAt.below rr hb
    replace rs := RowAt.below rs hb
    replace h0 := h0.keep hb
    replace h1 := h1.keep hb
    replace hB := below2 hB hb
    clear hb
    have s0 := RowAt.cell rs 0
    have s1 := RowAt.cell rs 1
    have s2 := RowAt.cell rs 2
    have s3 := RowAt.cell rs 3
    have s4 := RowAt.cell rs 4
    have s5 := RowAt.cell rs 5
    have sf := RowAt.frozen rs
    simp only [List.getElem?_cons_succ, List.getElem?_cons_zero] at s0 s1 s2 s3 s4 s5
    go_wp2_with fail
    clear s0 s1 s2 s3 s4 s5 sf
    go_at_call 9; refine (c9 _ _ h0).mono ?_; rintro e w16 ⟨u9, rfl, h9, hb⟩
    replace rr := RowAt.below rr hb
    replace rs := RowAt.below rs hb
    replace h0 := h0.keep hb
    replace h1 := h1.keep hb
    replace h8 := h8.keep hb
    replace hB := below2 hB hb
    clear hb
    have r0 := RowAt.cell rr 0
    have r1 := RowAt.cell rr 1
    have r2 := RowAt.cell rr 2
    have r3 := RowAt.cell rr 3
    have r4 := RowAt.cell rr 4
    have r5 := RowAt.cell rr 5
    have rf := RowAt.frozen rr
    simp only [List.getElem?_cons_succ, List.getElem?_cons_zero] at r0 r1 r2 r3 r4 r5
    go_wp2_with fail
    clear r0 r1 r2 r3 r4 r5 rf
    go_at_call 9; refine (c10 _ _ h9).mono ?_; rintro e w17 ⟨u10, rfl, h10, hb⟩
    replace rr := RowAt.below rr hb
    replace rs := RowAt.below rs hb
    replace h0 := h0.keep hb
    replace h1 := h1.keep hb
    replace h8 := h8.keep hb
    replace h9 := h9.keep hb
    replace hB := below2 hB hb
    clear hb
    clear h1 h9 h0
    have r0 := RowAt.cell rr 0
    have r1 := RowAt.cell rr 1
    have r2 := RowAt.cell rr 2
    have r3 := RowAt.cell rr 3
    have r4 := RowAt.cell rr 4
    have r5 := RowAt.cell rr 5
    have rf := RowAt.frozen rr
    simp only [List.getElem?_cons_succ, List.getElem?_cons_zero] at r0 r1 r2 r3 r4 r5
    have s0 := RowAt.cell rs 0
    have s1 := RowAt.cell rs 1
    have s2 := RowAt.cell rs 2
    have s3 := RowAt.cell rs 3
    have s4 := RowAt.cell rs 4
    have s5 := RowAt.cell rs 5
    have sf := RowAt.frozen rs
    simp only [List.getElem?_cons_succ, List.getElem?_cons_zero] at s0 s1 s2 s3 s4 s5
    rcases HL.out with e | ⟨e, e2 | e2⟩ | ⟨e, e3, e2 | e2⟩ | ⟨e, e3, e4, e5, e6⟩
    · subst e
      go_wp2_with fail
      go_ret
      exact ⟨rfl, hB⟩
    · subst e e2
      go_wp2_with fail
      go_ret
      exact ⟨rfl, hB⟩
    · subst e e2
      go_wp2_with fail
      go_ret
      exact ⟨rfl, hB⟩
    · subst e e3 e2
      go_wp2_with fail
      go_ret
      exact ⟨rfl, hB⟩
    · subst e e3 e2
      go_wp2_with fail
      go_ret
      exact ⟨rfl, hB⟩
    · subst e e3 e4 e5 e6
      go_wp2_with fail
      go_at_call 18; refine (Tr.same_any _ _ _ _ h8 h10).mono ?_; rintro e we ⟨rfl, hb⟩
      replace hB := below2 hB hb
      go_wp2_with fail
      go_ret
      exact ⟨rfl, hB⟩
theorem walk (v : Value) (l : List Rt) (r s : Rt) (p : Pf) (w : World) (h0 : HasRts w v l) (hf : ∀ x ∈ l, FitR x) (hr : FitR r) (hs : FitR s) (hp : (-9223372036854775808 ≤ p.len ∧ p.len ≤ 9223372036854775807) ∧ p.n < 2 ^ 128) :
    Calls Try.prog 5 #[v, rtV r, rtV s, pfV p] w fun e w' => e = .returned (.bool true) ∧ Below w.heap.size w w' := by
  obtain ⟨o, t, rfl, _⟩ := Lk.HasRow.slice h0
  have c1 := fun W v h => put_any l v r W h hf hr
  by_cases h1 : (putT l r).2 = 0
  · have c8 := fun W v h => put_any (putT l r).1 v s W h (fit_put hf hr) hs
    have c9 := fun W v h => put_any l v s W h hf hs
    have c10 := fun W v h => put_any (putT l s).1 v r W h (fit_put hf hs) hr
    have c2 := fun W v h => find_any (putT l r).1 v r.pf W h (fit_put hf hr) hr.1
    have c5 := fun W v h => check_any (putT l r).1 v W h (fit_put hf hr)
    rw [found_put h1] at c2
    rw [check_put h1] at c5
    rw [h1] at c1
    have HH : Hid ((findE l r.pf).2 = 0 ∨ ((findE l r.pf).2 = 3 ∧ (delT (putT l r).1 r.pf).2 = 0 ∧ (delT (putT l r).1 r.pf).1 = l)) := by
      by_cases g : (findE l r.pf).2 = 3
      · exact .inr ⟨g, by rw [del_put h1 g], by rw [del_put h1 g]⟩
      · left
        obtain ⟨k1, k2, _, _⟩ := putT_ok h1
        unfold findE findO at g ⊢
        rw [k1, fit_okR k2] at g ⊢
        cases hx : findT l r.pf with
        | none => rw [hx] at g; exact absurd rfl g
        | some y => rfl
    have HL : Hid (eqP s.pf r.pf = true ∨ (eqP s.pf r.pf = false ∧ ((putT (putT l r).1 s).2 = 2 ∨ (putT (putT l r).1 s).2 = 8)) ∨ (eqP s.pf r.pf = false ∧ (putT (putT l r).1 s).2 = 0 ∧ ((putT l s).2 = 2 ∨ (putT l s).2 = 8)) ∨ (eqP s.pf r.pf = false ∧ (putT (putT l r).1 s).2 = 0 ∧ (putT l s).2 = 0 ∧ (putT (putT l s).1 r).2 = 0 ∧ (putT (putT l s).1 r).1 = (putT (putT l r).1 s).1)) := by
      cases hq : eqP s.pf r.pf with
      | true => exact .inl rfl
      | false =>
        refine .inr ?_
        by_cases g1 : (putT (putT l r).1 s).2 = 0
        · refine .inr ?_
          by_cases g2 : (putT l s).2 = 0
          · have := put_swap h1 g1 g2 ((eqP_not _ _).1 hq)
            exact .inr ⟨rfl, g1, g2, by rw [this], by rw [this]⟩
          · exact .inl ⟨rfl, g1, (put_not g2).imp_right (fun h => h.1)⟩
        · exact .inl ⟨rfl, (put_not g1).imp_right (fun h => h.1)⟩
    cases hq : eqP p r.pf with
    | true =>
      exact walk_t r.pf.six (hiN r.pf.n : Int) (loN r.pf.n : Int) r.pf.len (r.act.k : Int) r.act.i s.pf.six (hiN s.pf.n : Int) (loN s.pf.n : Int) s.pf.len (s.act.k : Int) s.act.i p.six (hiN p.n : Int) (loN p.n : Int) p.len (findE l p).1.pf.six (hiN (findE l p).1.pf.n : Int) (loN (findE l p).1.pf.n : Int) (findE l p).1.pf.len ((findE l p).1.act.k : Int) (findE l p).1.act.i (findE (putT l r).1 p).1.pf.six (hiN (findE (putT l r).1 p).1.pf.n : Int) (loN (findE (putT l r).1 p).1.pf.n : Int) (findE (putT l r).1 p).1.pf.len ((findE (putT l r).1 p).1.act.k : Int) (findE (putT l r).1 p).1.act.i (findE l r.pf).1.pf.six (hiN (findE l r.pf).1.pf.n : Int) (loN (findE l r.pf).1.pf.n : Int) (findE l r.pf).1.pf.len ((findE l r.pf).1.act.k : Int) (findE l r.pf).1.act.i (findE l p).2 (findE (putT l r).1 p).2 (findE l r.pf).2 (delT (putT l r).1 r.pf).2 (putT (putT l r).1 s).2 (putT l s).2 (putT (putT l s).1 r).2 l (putT l r).1 (delT (putT l r).1 r.pf).1 (putT (putT l r).1 s).1 (putT l s).1 (putT (putT l s).1 r).1 o _ t w h0
        c1 c2 (fun W v h => find_any l v p W h hf hp) (fun W v h => find_any _ v p W h (fit_put hf hr) hp) c5 (fun W v h => find_any l v r.pf W h hf hr.1) (fun W v h => del_any _ v r.pf W h (fit_put hf hr) hr.1) c8 c9 c10
        (fun W => rt_one r W) (fun W => by have := pf_neq p r.pf W; rw [hq] at this; exact this) (fun W => rt_one _ W) HH _ (fun W => pf_eqb s.pf r.pf W) HL
    | false =>
      have c4 := fun W v h => find_any (putT l r).1 v p W h (fit_put hf hr) hp
      rw [found_other h1 ((eqP_not _ _).1 hq)] at c4
      exact walk_f r.pf.six (hiN r.pf.n : Int) (loN r.pf.n : Int) r.pf.len (r.act.k : Int) r.act.i s.pf.six (hiN s.pf.n : Int) (loN s.pf.n : Int) s.pf.len (s.act.k : Int) s.act.i p.six (hiN p.n : Int) (loN p.n : Int) p.len (findE l p).1.pf.six (hiN (findE l p).1.pf.n : Int) (loN (findE l p).1.pf.n : Int) (findE l p).1.pf.len ((findE l p).1.act.k : Int) (findE l p).1.act.i (findE l p).1.pf.six (hiN (findE l p).1.pf.n : Int) (loN (findE l p).1.pf.n : Int) (findE l p).1.pf.len ((findE l p).1.act.k : Int) (findE l p).1.act.i (findE l r.pf).1.pf.six (hiN (findE l r.pf).1.pf.n : Int) (loN (findE l r.pf).1.pf.n : Int) (findE l r.pf).1.pf.len ((findE l r.pf).1.act.k : Int) (findE l r.pf).1.act.i (findE l p).2 (findE l p).2 (findE l r.pf).2 (delT (putT l r).1 r.pf).2 (putT (putT l r).1 s).2 (putT l s).2 (putT (putT l s).1 r).2 l (putT l r).1 (delT (putT l r).1 r.pf).1 (putT (putT l r).1 s).1 (putT l s).1 (putT (putT l s).1 r).1 o _ t w h0
        c1 c2 (fun W v h => find_any l v p W h hf hp) c4 c5 (fun W v h => find_any l v r.pf W h hf hr.1) (fun W v h => del_any _ v r.pf W h (fit_put hf hr) hr.1) c8 c9 c10
        (fun W => rt_one r W) (fun W => by have := pf_neq p r.pf W; rw [hq] at this; exact this) (fun W => rt_one _ W) HH _ (fun W => pf_eqb s.pf r.pf W) HL
  · rcases put_not h1 with g | ⟨g, g2⟩
    · rw [g] at c1
      exact walk2 r.pf.six (hiN r.pf.n : Int) (loN r.pf.n : Int) r.pf.len (r.act.k : Int) r.act.i s.pf.six (hiN s.pf.n : Int) (loN s.pf.n : Int) s.pf.len (s.act.k : Int) s.act.i p.six (hiN p.n : Int) (loN p.n : Int) p.len l (putT l r).1 o _ t w h0 trivial c1
    · rw [g] at c1
      exact walk8 r.pf.six (hiN r.pf.n : Int) (loN r.pf.n : Int) r.pf.len (r.act.k : Int) r.act.i s.pf.six (hiN s.pf.n : Int) (loN s.pf.n : Int) s.pf.len (s.act.k : Int) s.act.i p.six (hiN p.n : Int) (loN p.n : Int) p.len l (putT l r).1 o _ t w h0 g2 c1

set_option maxRecDepth 100000 in
theorem lifted (os : Os) (started : os.Started) (H : Type) (enc : TypeId × Value → H) :
    ReturnsInHanded {} Try.checked os 5 .any (Rows.trieFoundSpec.pre6 enc Try.prog Try.f5 Rows.trieFoundRow.domain false) (Rows.trieFoundSpec.post enc Try.prog Try.f5 false true false false) := by
  refine returnsInHanded_of_change_sized (C := Try.checked) own started (by kernel_rfl) Try.func5
    (ChangeSpec.witness6 (enc := enc) (C := Try.checked) false ⟨#[], #[.slice none 0 0, .agg #[.bool false, .int .u64 0, .int .u64 0, .int .i64 0, .int .u8 0, .int .i64 0], .agg #[.bool false, .int .u64 0, .int .u64 0, .int .i64 0, .int .u8 0, .int .i64 0], .agg #[.bool false, .int .u64 0, .int .u64 0, .int .i64 0]], []⟩ 8 (by kernel_rfl) (by kernel_rfl) (by kernel_rfl) (by kernel_rfl)) ?_
  intro W base args ds gs before hval0 hW _ hsz0 _
  have hsz : (DataW.weightsEach Try.prog (Try.f5.params.toList ++ Rows.trieFoundSpec.plain.varTypes Try.prog) (ds ++ gs)).all (· ≤ reachBytes) = true := hsz0
  clear hsz0
  have hval : ∀ (j : Nat) t v, Try.f5.params[j]? = some t → args[j]? = some v → Value.okWide Try.prog W .any base t v := hval0
  have hW' := hW
  obtain ⟨p, q, hA0, hV, rfl, hfz, hnd⟩ := hW
  have hA : DataW.TrodAll enc Try.prog W 0 (fun _ => true) true Try.f5.params.toList args.toList ds p := hA0
  rw [Try.params5] at hA hval hsz
  obtain ⟨v0, vs0, d0, ds0, p0, q0, hargs, rfl, rfl, h0, r0⟩ := trodAll_cons hA
  obtain ⟨v1, vs1, d1, ds1, p1, q1, rfl, rfl, rfl, h1, r1⟩ := trodAll_cons r0
  obtain ⟨v2, vs2, d2, ds2, p2, q2, rfl, rfl, rfl, h2, r2⟩ := trodAll_cons r1
  obtain ⟨v3, vs3, d3, ds3, p3, q3, rfl, rfl, rfl, h3, r3⟩ := trodAll_cons r2
  obtain ⟨rfl, rfl, rfl⟩ := trodAll_nil r3
  obtain rfl : args = #[v0, v1, v2, v3] := by cases args; simp_all
  obtain ⟨rfl, rfl⟩ := trodVars_none hV
  obtain ⟨a0, len0, cap0, rfl⟩ := okWide_slice Try.underlying22 (hval 0 22 v0 rfl rfl)
  have k0 := h0
  have lt0 : ∀ x ∈ p0, x.block < W.heap.size := by obtain ⟨m, hm⟩ := k0; exact DataW.trod_lt m _ _ _ hm
  obtain ⟨fuel0, hf0⟩ := h0
  obtain ⟨z0, b0, f0⟩ := Tr.open_routes hf0
  have k1 := h1
  have lt1 : ∀ x ∈ p1, x.block < W.heap.size := by obtain ⟨m, hm⟩ := k1; exact DataW.trod_lt m _ _ _ hm
  obtain ⟨n1, rfl, b1⟩ := Tr.open_route (hval 1 32 v1 rfl rfl) h1
  have k2 := h2
  have lt2 : ∀ x ∈ p2, x.block < W.heap.size := by obtain ⟨m, hm⟩ := k2; exact DataW.trod_lt m _ _ _ hm
  obtain ⟨n2, rfl, b2⟩ := Tr.open_route (hval 2 32 v2 rfl rfl) h2
  have k3 := h3
  have lt3 : ∀ x ∈ p3, x.block < W.heap.size := by obtain ⟨m, hm⟩ := k3; exact DataW.trod_lt m _ _ _ hm
  obtain ⟨n3, rfl, b3⟩ := Addr.open_prefix (hval 3 27 v3 rfl rfl) h3
  clear hA0 hval0
  refine (walk (.slice a0 len0 cap0) z0 n1 n2 n3 W b0 f0 b1 b2 b3).mono fun e W' ⟨he, bel⟩ => ?_
  subst he
  exact ⟨_, rfl, _, _, _, [], _, [], hW', trodAll_mk1 (shut_bool Try.underlying4 _), (trodAll_cons_mk (Below.trod laidOut (by kernel_rfl) (of_decide_eq_true (by kernel_rfl)) k0 bel lt0) (trodAll_cons_mk (Below.trod laidOut (by kernel_rfl) (of_decide_eq_true (by kernel_rfl)) k1 bel lt1) (trodAll_cons_mk (Below.trod laidOut (by kernel_rfl) (of_decide_eq_true (by kernel_rfl)) k2 bel lt2) (trodAll_cons_mk (Below.trod laidOut (by kernel_rfl) (of_decide_eq_true (by kernel_rfl)) k3 bel lt3) trodAll_mk0)))), rfl, bel.frame _, fun h => by cases h⟩

theorem over : Rows.trieFoundRow.holds Try.pinned (OpenSpec.ofChange Rows.trieFoundSpec) :=
  OpenClaim.holds_of_wide 5 Try.f5 rfl rfl rfl rfl rfl rfl rfl ⟨rfl, rfl, rfl, rfl, rfl⟩ rfl rfl rfl rfl rfl (by kernel_rfl) Try.func5 (by kernel_rfl)
    (of_decide_eq_true (by kernel_rfl)) (by unfold Func.isWrapper; first | (rw [if_pos (by decide +kernel)]; kernel_rfl) | (rw [if_neg (by decide +kernel)]; exact ⟨rfl, rfl⟩))
    (fun os started H enc _ => lifted os started H enc)
end trieFound
theorem tfound_holds : Rows.TrieFoundSaid := trieFound.over
#print axioms tfound_holds
end Go.Proofs.Ytjgieaijdkmadaa
