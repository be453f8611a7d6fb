/- For all routes, a route and a prefix: spoorlaw15.TrieChanges returns true, and changes nothing that was there. No condition. -/
import Derived.Test.YtjgieaijdkmadaaRows
import Derived.Test.YtjgieaijdkmadaaTqF
import Derived.Test.YtjgieaijdkmadaaTqD
import Derived.ProofKit
import Derived.OpenShut
import Derived.ShutString
import Derived.SizedLaws
set_option linter.unusedVariables false
namespace Go.Proofs.Ytjgieaijdkmadaa
namespace trieChanges
open Go.ChangeShapes Go.WideShapes Go.ChangeAt Go.RowKit
open Go.ChangeMaps (open_string shut_string)
open Go.Proofs.Ytjgieaijdkmadaa.Tr
open Go.Proofs.Ytjgieaijdkmadaa.Tl (BoolIs lives_any)
open Go.Proofs.Ytjgieaijdkmadaa.Ct (HasAds HasAds.keep cutsT HasAds.cell)
open Go.Proofs.Ytjgieaijdkmadaa.Msg (eqP eqP_iff eqP_not pf_neq pf_eqb Ac FitA)
open Go.Proofs.Ytjgieaijdkmadaa.Addr (Pf pfV adV hasB coversB hiN loN rightB cmpN RowAt below2 below_drew below_new bset RowAt.lt RowAt.cell RowAt.frozen RowAt.below RowAt.drew RowAt.new RowAt.alloc RowAt.gkeep cells2 cells4)
theorem own : ownKnob Try.prog.godebug = none := by kernel_rfl
theorem laidOut : laidOutB Try.prog = true := by kernel_rfl
set_option maxHeartbeats 16000000 in
set_option maxRecDepth 20000 in
theorem walks (rA : Bool) (rB rC rD rE rF : Int) (pA : Bool) (pB pC pD : Int) (xA : Bool) (xB xC xD xE xF : Int) (z1 z2 z3 z4 : Int) (l A D : List Rt) (o : Option Addr) (n c : Nat) (w : World) (h0 : HasRts w (.slice o n c) l)
    (c1 : ∀ W v, HasRts W v l → Calls Try.prog 9 #[v, .agg #[.bool rA, .int .u64 rB, .int .u64 rC, .int .i64 rD, .int .u8 rE, .int .i64 rF]] W fun e w' => ∃ u, e = .returned (.tuple #[u, .int .i64 z1]) ∧ HasRts w' u A ∧ Below W.heap.size W w') (c2 : ∀ W v, HasRts W v l → Calls Try.prog 10 #[v, .agg #[.bool rA, .int .u64 rB, .int .u64 rC, .int .i64 rD, .int .u8 rE, .int .i64 rF]] W fun e w' => ∃ u, e = .returned (.tuple #[u, .int .i64 z1]) ∧ HasRts w' u A ∧ Below W.heap.size W w') (c3 : ∀ W v, HasRts W v l → Calls Try.prog 11 #[v, .agg #[.bool pA, .int .u64 pB, .int .u64 pC, .int .i64 pD]] W fun e w' => ∃ u, e = .returned (.tuple #[u, .int .i64 z2]) ∧ HasRts w' u D ∧ Below W.heap.size W w') (c4 : ∀ W v, HasRts W v l → Calls Try.prog 12 #[v, .agg #[.bool pA, .int .u64 pB, .int .u64 pC, .int .i64 pD]] W fun e w' => ∃ u, e = .returned (.tuple #[u, .int .i64 z2]) ∧ HasRts w' u D ∧ Below W.heap.size W w')
    (c5 : ∀ W v, HasRts W v l → Calls Try.prog 13 #[v, .agg #[.bool pA, .int .u64 pB, .int .u64 pC, .int .i64 pD]] W fun e w' => e = .returned (.tuple #[.agg #[.bool xA, .int .u64 xB, .int .u64 xC, .int .i64 xD, .int .u8 xE, .int .i64 xF], .int .i64 z3]) ∧ Below W.heap.size W w') (c6 : ∀ W v, HasRts W v l → Calls Try.prog 14 #[v, .agg #[.bool pA, .int .u64 pB, .int .u64 pC, .int .i64 pD]] W fun e w' => e = .returned (.tuple #[.agg #[.bool xA, .int .u64 xB, .int .u64 xC, .int .i64 xD, .int .u8 xE, .int .i64 xF], .int .i64 z3]) ∧ Below W.heap.size W w') (c7 : ∀ W v, HasRts W v l → Calls Try.prog 16 #[v] W fun e w' => e = .returned (.int .i64 z4) ∧ Below W.heap.size W w') (c8 : ∀ W v, HasRts W v l → Calls Try.prog 17 #[v] W fun e w' => e = .returned (.int .i64 z4) ∧ Below W.heap.size W w')
    (heq : ∀ W, (binOp .eql 32 (.agg #[.bool xA, .int .u64 xB, .int .u64 xC, .int .i64 xD, .int .u8 xE, .int .i64 xF]) (.agg #[.bool xA, .int .u64 xB, .int .u64 xC, .int .i64 xD, .int .u8 xE, .int .i64 xF])).run Try.prog W = .ok (.bool true) W) :
    Calls Try.prog 3 #[.slice o n c, .agg #[.bool rA, .int .u64 rB, .int .u64 rC, .int .i64 rD, .int .u8 rE, .int .i64 rF], .agg #[.bool pA, .int .u64 pB, .int .u64 pC, .int .i64 pD]] w (BoolIs true w) := by
  have hB := Below.refl w.heap.size w
  go_enter Try.func3, Try.ntmps3
  obtain ⟨Y1, hY⟩ : ∃ Y, Y = ((w.alloc (.cells #[.bool rA, .int .u64 rB, .int .u64 rC, .int .i64 rD, .int .u8 rE, .int .i64 rF] 32)).alloc (.cells #[.bool pA, .int .u64 pB, .int .u64 pC, .int .i64 pD] 27)) := ⟨_, rfl⟩
  have hbY : Below w.heap.size w Y1 := by rw [hY]; exact below_new (below_new (Below.refl _ _) _) _
  have hle : w.heap.size ≤ w.heap.size := hB.size
  obtain ⟨gr, hgr⟩ : ∃ g, g = w.heap.size := ⟨_, rfl⟩
  have rr : RowAt Y1 gr [.bool rA, .int .u64 rB, .int .u64 rC, .int .i64 rD, .int .u8 rE, .int .i64 rF] 32 := by
    have h := (RowAt.new w [.bool rA, .int .u64 rB, .int .u64 rC, .int .i64 rD, .int .u8 rE, .int .i64 rF] 32).alloc (.cells #[.bool pA, .int .u64 pB, .int .u64 pC, .int .i64 pD] 27)
    rw [hgr, hY]; exact h
  have ler : w.heap.size ≤ gr := by omega
  obtain ⟨gp, hgp⟩ : ∃ g, g = w.heap.size + 1 := ⟨_, rfl⟩
  have rp : RowAt Y1 gp [.bool pA, .int .u64 pB, .int .u64 pC, .int .i64 pD] 27 := by
    have h := RowAt.new (w.alloc (.cells #[.bool rA, .int .u64 rB, .int .u64 rC, .int .i64 rD, .int .u8 rE, .int .i64 rF] 32)) [.bool pA, .int .u64 pB, .int .u64 pC, .int .i64 pD] 27
    simp only [World.size_alloc] at h
    rw [hgp, hY]; exact h
  have lep : w.heap.size ≤ gp := by omega
  have nerp : gr ≠ gp := by omega
  replace h0 := h0.keep hbY
  replace hB := below2 hB hbY
  go_upto_region 1 with fail
  rw [← hY, ← hgp, ← hgr]
  clear hY hbY hle hgr hgp
  have r0 := RowAt.cell rr 0
  have r1 := RowAt.cell rr 1
  have r2 := RowAt.cell rr 2
  have r3 := RowAt.cell rr 3
  have r4 := RowAt.cell rr 4
  have r5 := RowAt.cell rr 5
  have rf := RowAt.frozen rr
  simp only [List.getElem?_cons_succ, List.getElem?_cons_zero] at r0 r1 r2 r3 r4 r5
  go_wp2_with fail
  clear r0 r1 r2 r3 r4 r5 rf
  go_at_call 9; refine (c1 _ _ h0).mono ?_; rintro e w2 ⟨u1, rfl, h1, hb⟩
  replace rr := RowAt.below rr hb
  replace rp := RowAt.below rp hb
  replace h0 := h0.keep hb
  replace hB := below2 hB hb
  clear hb
  have r0 := RowAt.cell rr 0
  have r1 := RowAt.cell rr 1
  have r2 := RowAt.cell rr 2
  have r3 := RowAt.cell rr 3
  have r4 := RowAt.cell rr 4
  have r5 := RowAt.cell rr 5
  have rf := RowAt.frozen rr
  simp only [List.getElem?_cons_succ, List.getElem?_cons_zero] at r0 r1 r2 r3 r4 r5
  go_wp2_with fail
  clear r0 r1 r2 r3 r4 r5 rf
  go_at_call 10; refine (c2 _ _ h0).mono ?_; rintro e w3 ⟨u2, rfl, h2, hb⟩
  replace rr := RowAt.below rr hb
  replace rp := RowAt.below rp hb
  replace h0 := h0.keep hb
  replace h1 := h1.keep hb
  replace hB := below2 hB hb
  clear hb
  clear rr
  obtain ⟨p0, p1, p2, p3, pf⟩ := cells4 rp
  go_wp2_with fail
  clear p0 p1 p2 p3 pf
  go_at_call 11; refine (c3 _ _ h0).mono ?_; rintro e w4 ⟨u3, rfl, h3, hb⟩
  replace rp := RowAt.below rp hb
  replace h0 := h0.keep hb
  replace h1 := h1.keep hb
  replace h2 := h2.keep hb
  replace hB := below2 hB hb
  clear hb
  obtain ⟨p0, p1, p2, p3, pf⟩ := cells4 rp
  go_wp2_with fail
  clear p0 p1 p2 p3 pf
  go_at_call 12; refine (c4 _ _ h0).mono ?_; rintro e w5 ⟨u4, rfl, h4, hb⟩
  replace rp := RowAt.below rp hb
  replace h0 := h0.keep hb
  replace h1 := h1.keep hb
  replace h2 := h2.keep hb
  replace h3 := h3.keep hb
  replace hB := below2 hB hb
  clear hb
  obtain ⟨p0, p1, p2, p3, pf⟩ := cells4 rp
  go_wp2_with fail
  clear p0 p1 p2 p3 pf
  go_at_call 13; refine (c5 _ _ h0).mono ?_; rintro e w6 ⟨rfl, hb⟩
  replace rp := RowAt.below rp hb
  replace h0 := h0.keep hb
  replace h1 := h1.keep hb
  replace h2 := h2.keep hb
  replace h3 := h3.keep hb
  replace h4 := h4.keep hb
  replace hB := below2 hB hb
  clear hb
  obtain ⟨Y7, hY⟩ : ∃ Y, Y = (w6.alloc (.cells #[.bool xA, .int .u64 xB, .int .u64 xC, .int .i64 xD, .int .u8 xE, .int .i64 xF] 32)) := ⟨_, rfl⟩
  have hbY : Below w6.heap.size w6 Y7 := by rw [hY]; exact below_new (Below.refl _ _) _
  have hle : w.heap.size ≤ w6.heap.size := hB.size
  obtain ⟨gx, hgx⟩ : ∃ g, g = w6.heap.size := ⟨_, rfl⟩
  have rx : RowAt Y7 gx [.bool xA, .int .u64 xB, .int .u64 xC, .int .i64 xD, .int .u8 xE, .int .i64 xF] 32 := by
    have h := RowAt.new w6 [.bool xA, .int .u64 xB, .int .u64 xC, .int .i64 xD, .int .u8 xE, .int .i64 xF] 32
    rw [hgx, hY]; exact h
  have lex : w.heap.size ≤ gx := by omega
  have nepx : gp ≠ gx := by have := RowAt.lt rp; omega
  replace rp := RowAt.below rp hbY
  replace h0 := h0.keep hbY
  replace h1 := h1.keep hbY
  replace h2 := h2.keep hbY
  replace h3 := h3.keep hbY
  replace h4 := h4.keep hbY
  replace hB := below2 hB hbY
  go_upto_region 6 with fail
  rw [← hY, ← hgx]
  clear hY hbY hle hgx
  obtain ⟨p0, p1, p2, p3, pf⟩ := cells4 rp
  go_wp2_with fail
  clear p0 p1 p2 p3 pf
  go_at_call 14; refine (c6 _ _ h0).mono ?_; rintro e w8 ⟨rfl, hb⟩
  replace rp := RowAt.below rp hb
  replace rx := RowAt.below rx hb
  replace h0 := h0.keep hb
  replace h1 := h1.keep hb
  replace h2 := h2.keep hb
  replace h3 := h3.keep hb
  replace h4 := h4.keep hb
  replace hB := below2 hB hb
  clear hb
  obtain ⟨Y9, hY⟩ : ∃ Y, Y = (w8.alloc (.cells #[.bool xA, .int .u64 xB, .int .u64 xC, .int .i64 xD, .int .u8 xE, .int .i64 xF] 32)) := ⟨_, rfl⟩
  have hbY : Below w8.heap.size w8 Y9 := by rw [hY]; exact below_new (Below.refl _ _) _
  have hle : w.heap.size ≤ w8.heap.size := hB.size
  obtain ⟨gy, hgy⟩ : ∃ g, g = w8.heap.size := ⟨_, rfl⟩
  have ry : RowAt Y9 gy [.bool xA, .int .u64 xB, .int .u64 xC, .int .i64 xD, .int .u8 xE, .int .i64 xF] 32 := by
    have h := RowAt.new w8 [.bool xA, .int .u64 xB, .int .u64 xC, .int .i64 xD, .int .u8 xE, .int .i64 xF] 32
    rw [hgy, hY]; exact h
  have ley : w.heap.size ≤ gy := by omega
  have nepy : gp ≠ gy := by have := RowAt.lt rp; omega
  have nexy : gx ≠ gy := by have := RowAt.lt rx; omega
  replace rp := RowAt.below rp hbY
  replace rx := RowAt.below rx hbY
  replace h0 := h0.keep hbY
  replace h1 := h1.keep hbY
  replace h2 := h2.keep hbY
  replace h3 := h3.keep hbY
  replace h4 := h4.keep hbY
  replace hB := below2 hB hbY
  go_upto_region 7 with fail
  rw [← hY, ← hgy]
  clear hY hbY hle hgy
  clear rp
  go_wp2_with fail
  go_at_call 15; refine (lives_any _).mono ?_; rintro e w10 ⟨rfl, hb⟩
  replace rx := RowAt.below rx hb
  replace ry := RowAt.below ry hb
  replace h0 := h0.keep hb
  replace h1 := h1.keep hb
  replace h2 := h2.keep hb
  replace h3 := h3.keep hb
  replace h4 := h4.keep hb
  replace hB := below2 hB hb
  clear hb
  go_wp2_with fail
  go_at_call 16; refine (c7 _ _ h0).mono ?_; rintro e w11 ⟨rfl, hb⟩
  replace rx := RowAt.below rx hb
  replace ry := RowAt.below ry hb
  replace h0 := h0.keep hb
  replace h1 := h1.keep hb
  replace h2 := h2.keep hb
  replace h3 := h3.keep hb
  replace h4 := h4.keep hb
  replace hB := below2 hB hb
  clear hb
  go_wp2_with fail
  go_at_call 17; refine (c8 _ _ h0).mono ?_; rintro e w12 ⟨rfl, hb⟩
  replace rx := RowAt.below rx hb
  replace ry := RowAt.below ry hb
  replace h0 := h0.keep hb
  replace h1 := h1.keep hb
  replace h2 := h2.keep hb
  replace h3 := h3.keep hb
  replace h4 := h4.keep hb
  replace hB := below2 hB hb
  clear hb
  go_wp2_with fail
  go_at_call 18; refine (Tr.same_any A _ _ _ h1 h2).mono ?_; rintro e w13 ⟨rfl, hb⟩
  replace rx := RowAt.below rx hb
  replace ry := RowAt.below ry hb
  replace h0 := h0.keep hb
  replace h1 := h1.keep hb
  replace h2 := h2.keep hb
  replace h3 := h3.keep hb
  replace h4 := h4.keep hb
  replace hB := below2 hB hb
  clear hb
  go_wp2_with fail
  go_at_call 18; refine (Tr.same_any D _ _ _ h3 h4).mono ?_; rintro e w14 ⟨rfl, hb⟩
  replace rx := RowAt.below rx hb
  replace ry := RowAt.below ry hb
  replace h0 := h0.keep hb
  replace h1 := h1.keep hb
  replace h2 := h2.keep hb
  replace h3 := h3.keep hb
  replace h4 := h4.keep hb
  replace hB := below2 hB hb
  clear hb
  have x0 := RowAt.cell rx 0
  have x1 := RowAt.cell rx 1
  have x2 := RowAt.cell rx 2
  have x3 := RowAt.cell rx 3
  have x4 := RowAt.cell rx 4
  have x5 := RowAt.cell rx 5
  have xf := RowAt.frozen rx
  simp only [List.getElem?_cons_succ, List.getElem?_cons_zero] at x0 x1 x2 x3 x4 x5
  have y0 := RowAt.cell ry 0
  have y1 := RowAt.cell ry 1
  have y2 := RowAt.cell ry 2
  have y3 := RowAt.cell ry 3
  have y4 := RowAt.cell ry 4
  have y5 := RowAt.cell ry 5
  have yf := RowAt.frozen ry
  simp only [List.getElem?_cons_succ, List.getElem?_cons_zero] at y0 y1 y2 y3 y4 y5
  go_wp2_with fail
  go_ret
  exact ⟨rfl, hB⟩
theorem walk (v : Value) (l : List Rt) (r : Rt) (p : Pf) (w : World) (h0 : HasRts w v l) (hf : ∀ x ∈ l, FitR x) (hr : FitR r) (hp : (-9223372036854775808 ≤ p.len ∧ p.len ≤ 9223372036854775807) ∧ p.n < 2 ^ 128) :
    Calls Try.prog 3 #[v, rtV r, pfV p] w fun e w' => e = .returned (.bool true) ∧ Below w.heap.size w w' := by
  obtain ⟨o, t, rfl, _⟩ := Lk.HasRow.slice h0
  exact walks r.pf.six (hiN r.pf.n : Int) (loN r.pf.n : Int) r.pf.len (r.act.k : Int) r.act.i p.six (hiN p.n : Int) (loN p.n : Int) p.len (findE l p).1.pf.six (hiN (findE l p).1.pf.n : Int) (loN (findE l p).1.pf.n : Int) (findE l p).1.pf.len ((findE l p).1.act.k : Int) (findE l p).1.act.i (putT l r).2 (delT l p).2 (findE l p).2 (checkT l) l (putT l r).1 (delT l p).1 o _ t w h0
    (fun W v h => put_any l v r W h hf hr) (fun W v h => rput_any l v r W h hf hr) (fun W v h => del_any l v p W h hf hp) (fun W v h => rdel_any l v p W h hf hp)
    (fun W v h => find_any l v p W h hf hp) (fun W v h => rfind_any l v p W h hf hp) (fun W v h => check_any l v W h hf) (fun W v h => rcheck_any l v W h hf)
    (fun W => by rw [rt_eql, (eqR_iff _ _).2 rfl])

set_option maxRecDepth 100000 in
theorem lifted (os : Os) (started : os.Started) (H : Type) (enc : TypeId × Value → H) :
    ReturnsInHanded {} Try.checked os 3 .any (Rows.trieChangesSpec.pre6 enc Try.prog Try.f3 Rows.trieChangesRow.domain false) (Rows.trieChangesSpec.post enc Try.prog Try.f3 false true false false) := by
  refine returnsInHanded_of_change_sized (C := Try.checked) own started (by kernel_rfl) Try.func3
    (ChangeSpec.witness6 (enc := enc) (C := Try.checked) false ⟨#[], #[.slice none 0 0, .agg #[.bool false, .int .u64 0, .int .u64 0, .int .i64 0, .int .u8 0, .int .i64 0], .agg #[.bool false, .int .u64 0, .int .u64 0, .int .i64 0]], []⟩ 8 (by kernel_rfl) (by kernel_rfl) (by kernel_rfl) (by kernel_rfl)) ?_
  intro W base args ds gs before hval0 hW _ hsz0 _
  have hsz : (DataW.weightsEach Try.prog (Try.f3.params.toList ++ Rows.trieChangesSpec.plain.varTypes Try.prog) (ds ++ gs)).all (· ≤ reachBytes) = true := hsz0
  clear hsz0
  have hval : ∀ (j : Nat) t v, Try.f3.params[j]? = some t → args[j]? = some v → Value.okWide Try.prog W .any base t v := hval0
  have hW' := hW
  obtain ⟨p, q, hA0, hV, rfl, hfz, hnd⟩ := hW
  have hA : DataW.TrodAll enc Try.prog W 0 (fun _ => true) true Try.f3.params.toList args.toList ds p := hA0
  rw [Try.params3] at hA hval hsz
  obtain ⟨v0, vs0, d0, ds0, p0, q0, hargs, rfl, rfl, h0, r0⟩ := trodAll_cons hA
  obtain ⟨v1, vs1, d1, ds1, p1, q1, rfl, rfl, rfl, h1, r1⟩ := trodAll_cons r0
  obtain ⟨v2, vs2, d2, ds2, p2, q2, rfl, rfl, rfl, h2, r2⟩ := trodAll_cons r1
  obtain ⟨rfl, rfl, rfl⟩ := trodAll_nil r2
  obtain rfl : args = #[v0, v1, v2] := by cases args; simp_all
  obtain ⟨rfl, rfl⟩ := trodVars_none hV
  obtain ⟨a0, len0, cap0, rfl⟩ := okWide_slice Try.underlying22 (hval 0 22 v0 rfl rfl)
  have k0 := h0
  have lt0 : ∀ x ∈ p0, x.block < W.heap.size := by obtain ⟨m, hm⟩ := k0; exact DataW.trod_lt m _ _ _ hm
  obtain ⟨fuel0, hf0⟩ := h0
  obtain ⟨z0, b0, f0⟩ := Tr.open_routes hf0
  have k1 := h1
  have lt1 : ∀ x ∈ p1, x.block < W.heap.size := by obtain ⟨m, hm⟩ := k1; exact DataW.trod_lt m _ _ _ hm
  obtain ⟨n1, rfl, b1⟩ := Tr.open_route (hval 1 32 v1 rfl rfl) h1
  have k2 := h2
  have lt2 : ∀ x ∈ p2, x.block < W.heap.size := by obtain ⟨m, hm⟩ := k2; exact DataW.trod_lt m _ _ _ hm
  obtain ⟨n2, rfl, b2⟩ := Addr.open_prefix (hval 2 27 v2 rfl rfl) h2
  clear hA0 hval0
  refine (walk (.slice a0 len0 cap0) z0 n1 n2 W b0 f0 b1 b2).mono fun e W' ⟨he, bel⟩ => ?_
  subst he
  exact ⟨_, rfl, _, _, _, [], _, [], hW', trodAll_mk1 (shut_bool Try.underlying4 _), (trodAll_cons_mk (Below.trod laidOut (by kernel_rfl) (of_decide_eq_true (by kernel_rfl)) k0 bel lt0) (trodAll_cons_mk (Below.trod laidOut (by kernel_rfl) (of_decide_eq_true (by kernel_rfl)) k1 bel lt1) (trodAll_cons_mk (Below.trod laidOut (by kernel_rfl) (of_decide_eq_true (by kernel_rfl)) k2 bel lt2) trodAll_mk0))), rfl, bel.frame _, fun h => by cases h⟩

theorem over : Rows.trieChangesRow.holds Try.pinned (OpenSpec.ofChange Rows.trieChangesSpec) :=
  OpenClaim.holds_of_wide 3 Try.f3 rfl rfl rfl rfl rfl rfl rfl ⟨rfl, rfl, rfl, rfl, rfl⟩ rfl rfl rfl rfl rfl (by kernel_rfl) Try.func3 (by kernel_rfl)
    (of_decide_eq_true (by kernel_rfl)) (by unfold Func.isWrapper; first | (rw [if_pos (by decide +kernel)]; kernel_rfl) | (rw [if_neg (by decide +kernel)]; exact ⟨rfl, rfl⟩))
    (fun os started H enc _ => lifted os started H enc)
end trieChanges
theorem tchanges_holds : Rows.TrieChangesSaid := trieChanges.over
#print axioms tchanges_holds
end Go.Proofs.Ytjgieaijdkmadaa
