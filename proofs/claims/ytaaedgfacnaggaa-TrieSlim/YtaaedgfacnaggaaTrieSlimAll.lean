/- For all routes, a kind and an address: spoorlaw15.TrieSlim returns true, and changes nothing that was there. No condition. -/
import Derived.Test.YtaaedgfacnaggaaRows
import Derived.Test.YtaaedgfacnaggaaTs18
import Derived.Test.YtaaedgfacnaggaaTs17
import Derived.Test.YtaaedgfacnaggaaTs21
import Derived.ProofKit
import Derived.OpenShut
import Derived.ShutString
import Derived.SizedLaws
set_option linter.unusedVariables false
namespace Go.Proofs.Ytaaedgfacnaggaa
namespace trieSlim
open Go.ChangeShapes Go.WideShapes Go.ChangeAt Go.RowKit
open Go.Proofs.Ytaaedgfacnaggaa.Tr
open Go.Proofs.Ytaaedgfacnaggaa.Tl (BoolIs lives_any)
open Go.Proofs.Ytaaedgfacnaggaa.Ct (HasAds.keep HasAds.cell)
open Go.Proofs.Ytaaedgfacnaggaa.Msg (Ac)
open Go.Proofs.Ytaaedgfacnaggaa.Addr (adV hiN loN RowAt below2 below_new RowAt.lt RowAt.cell RowAt.frozen RowAt.below RowAt.new RowAt.alloc cells2)
theorem own : ownKnob Try.prog.godebug = none := by kernel_rfl
theorem laidOut : laidOutB Try.prog = true := by kernel_rfl
theorem slim_sl (l : List Rt) (v : Value) (w : World) (hl : HasRts w v l) (hf : ∀ x ∈ l, FitR x) :
    Calls Try.prog 4 #[v] w fun e w' => ∃ o c, e = .returned (.tuple #[.slice o (slimT l).1.length c, .int .i64 (slimT l).2]) ∧ HasRts w' (.slice o (slimT l).1.length c) (slimT l).1 ∧ Below w.heap.size w w' :=
  (slim_any l v w hl hf).mono (by
    rintro e w' ⟨u, rfl, h1, h2⟩
    obtain ⟨o, c, rfl, _⟩ := Lk.HasRow.slice h1
    exact ⟨o, c, rfl, h1, h2⟩)
theorem rslim_sl (l : List Rt) (v : Value) (w : World) (hl : HasRts w v l) (hf : ∀ x ∈ l, FitR x) :
    Calls Try.prog 5 #[v] w fun e w' => ∃ o c, e = .returned (.tuple #[.slice o (slimT l).1.length c, .int .i64 (slimT l).2]) ∧ HasRts w' (.slice o (slimT l).1.length c) (slimT l).1 ∧ Below w.heap.size w w' :=
  (rslim_any l v w hl hf).mono (by
    rintro e w' ⟨u, rfl, h1, h2⟩
    obtain ⟨o, c, rfl, _⟩ := Lk.HasRow.slice h1
    exact ⟨o, c, rfl, h1, h2⟩)
theorem ac_eql (a b : Ac) (w : World) : (binOp .eql 35 (.agg #[.int .u8 (a.k : Int), .int .i64 a.i]) (.agg #[.int .u8 (b.k : Int), .int .i64 b.i])).run Try.prog w = .ok (.bool (eqA a b)) w := by
  have h := Msg.ac_inG a.k b.k a.i b.i w 9998
  rw [run_eql_struct, h]
  rfl
set_option maxHeartbeats 16000000 in
set_option maxRecDepth 20000 in
theorem walk_bad (six : Bool) (ah al : Int) (l M : List Rt) (o : Option Addr) (n c : Nat) (w : World) (h0 : HasRts w (.slice o n c) l)
    (c1 : ∀ W v, HasRts W v l → Calls Try.prog 4 #[v] W fun e w' => ∃ o c, e = .returned (.tuple #[.slice o 0 c, .int .i64 2]) ∧ HasRts w' (.slice o 0 c) M ∧ Below W.heap.size W w') (c2 : ∀ W v, HasRts W v l → Calls Try.prog 5 #[v] W fun e w' => ∃ o c, e = .returned (.tuple #[.slice o 0 c, .int .i64 2]) ∧ HasRts w' (.slice o 0 c) M ∧ Below W.heap.size W w') :
    Calls Try.prog 3 #[.slice o n c, .bool six, .agg #[.int .u64 ah, .int .u64 al]] w (BoolIs true w) := by
  have hB := Below.refl w.heap.size w
  go_enter Try.func3, Try.ntmps3
  obtain ⟨Y1, hY⟩ : ∃ Y, Y = (w.alloc (.cells #[.int .u64 ah, .int .u64 al] 25)) := ⟨_, rfl⟩
  have hbY : Below w.heap.size w Y1 := by rw [hY]; exact below_new (Below.refl _ _) _
  have hle : w.heap.size ≤ w.heap.size := hB.size
  obtain ⟨ga, hga⟩ : ∃ g, g = w.heap.size := ⟨_, rfl⟩
  have ra : RowAt Y1 ga [.int .u64 ah, .int .u64 al] 25 := by
    have h := RowAt.new w [.int .u64 ah, .int .u64 al] 25
    rw [hga, hY]; exact h
  have lea : w.heap.size ≤ ga := by omega
  replace h0 := h0.keep hbY
  replace hB := below2 hB hbY
  go_upto_region 1 with fail
  rw [← hY, ← hga]
  clear hY hbY hle hga
  go_wp2_with fail
  go_at_call 4; refine (c1 _ _ h0).mono ?_; rintro e w2 ⟨o1, m1, rfl, h1, hb⟩
  replace ra := RowAt.below ra hb
  replace h0 := h0.keep hb
  replace hB := below2 hB hb
  clear hb
  go_wp2_with fail
  go_at_call 5; refine (c2 _ _ h0).mono ?_; rintro e w3 ⟨o2, m2, rfl, h2, hb⟩
  replace ra := RowAt.below ra hb
  replace h0 := h0.keep hb
  replace h1 := h1.keep hb
  replace hB := below2 hB hb
  clear hb
  go_wp2_with fail
  go_at_call 6; refine (lives_any _).mono ?_; rintro e w4 ⟨rfl, hb⟩
  replace ra := RowAt.below ra hb
  replace h0 := h0.keep hb
  replace h1 := h1.keep hb
  replace h2 := h2.keep hb
  replace hB := below2 hB hb
  clear hb
  go_wp2_with fail
  go_at_call 7; refine (Tr.same_any M _ _ _ h1 h2).mono ?_; rintro e w5 ⟨rfl, hb⟩
  replace ra := RowAt.below ra hb
  replace h0 := h0.keep hb
  replace h1 := h1.keep hb
  replace h2 := h2.keep hb
  replace hB := below2 hB hb
  clear hb
  go_wp2_with fail
  go_ret
  exact ⟨rfl, hB⟩
set_option maxHeartbeats 16000000 in
set_option maxRecDepth 20000 in
theorem walk_ok (six : Bool) (ah al : Int) (xA : Bool) (xB xC xD xE xF : Int) (yA : Bool) (yB yC yD : Int) (z : Int) (l M : List Rt) (o : Option Addr) (n c m : Nat) (w : World) (h0 : HasRts w (.slice o n c) l) (hle : (m : Int) ≤ (n : Int))
    (c1 : ∀ W v, HasRts W v l → Calls Try.prog 4 #[v] W fun e w' => ∃ o c, e = .returned (.tuple #[.slice o m c, .int .i64 0]) ∧ HasRts w' (.slice o m c) M ∧ Below W.heap.size W w') (c2 : ∀ W v, HasRts W v l → Calls Try.prog 5 #[v] W fun e w' => ∃ o c, e = .returned (.tuple #[.slice o m c, .int .i64 0]) ∧ HasRts w' (.slice o m c) M ∧ Below W.heap.size W w') (c3 : ∀ W v, HasRts W v l → Calls Try.prog 8 #[v, .bool six, .agg #[.int .u64 ah, .int .u64 al]] W fun e w' => e = .returned (.tuple #[.agg #[.bool xA, .int .u64 xB, .int .u64 xC, .int .i64 xD, .int .u8 xE, .int .i64 xF], .int .i64 z]) ∧ Below W.heap.size W w')
    (c4 : ∀ W v, HasRts W v M → Calls Try.prog 8 #[v, .bool six, .agg #[.int .u64 ah, .int .u64 al]] W fun e w' => e = .returned (.tuple #[.agg #[.bool yA, .int .u64 yB, .int .u64 yC, .int .i64 yD, .int .u8 xE, .int .i64 xF], .int .i64 z]) ∧ Below W.heap.size W w') (c5 : ∀ W v, HasRts W v M → Calls Try.prog 4 #[v] W fun e w' => ∃ o c, e = .returned (.tuple #[.slice o m c, .int .i64 0]) ∧ HasRts w' (.slice o m c) M ∧ Below W.heap.size W w') (c6 : ∀ W v, HasRts W v M → Calls Try.prog 9 #[v] W fun e w' => e = .returned (.int .i64 0) ∧ Below W.heap.size W w')
    (heq : ∀ W, (binOp .eql 35 (.agg #[.int .u8 xE, .int .i64 xF]) (.agg #[.int .u8 xE, .int .i64 xF])).run Try.prog W = .ok (.bool true) W) :
    Calls Try.prog 3 #[.slice o n c, .bool six, .agg #[.int .u64 ah, .int .u64 al]] w (BoolIs true w) := by
  have hB := Below.refl w.heap.size w
  go_enter Try.func3, Try.ntmps3
  obtain ⟨Y1, hY⟩ : ∃ Y, Y = (w.alloc (.cells #[.int .u64 ah, .int .u64 al] 25)) := ⟨_, rfl⟩
  have hbY : Below w.heap.size w Y1 := by rw [hY]; exact below_new (Below.refl _ _) _
  have hle : w.heap.size ≤ w.heap.size := hB.size
  obtain ⟨ga, hga⟩ : ∃ g, g = w.heap.size := ⟨_, rfl⟩
  have ra : RowAt Y1 ga [.int .u64 ah, .int .u64 al] 25 := by
    have h := RowAt.new w [.int .u64 ah, .int .u64 al] 25
    rw [hga, hY]; exact h
  have lea : w.heap.size ≤ ga := by omega
  replace h0 := h0.keep hbY
  replace hB := below2 hB hbY
  go_upto_region 1 with fail
  rw [← hY, ← hga]
  clear hY hbY hle hga
  go_wp2_with fail
  go_at_call 4; refine (c1 _ _ h0).mono ?_; rintro e w2 ⟨o1, m1, rfl, h1, hb⟩
  replace ra := RowAt.below ra hb
  replace h0 := h0.keep hb
  replace hB := below2 hB hb
  clear hb
  go_wp2_with fail
  go_at_call 5; refine (c2 _ _ h0).mono ?_; rintro e w3 ⟨o2, m2, rfl, h2, hb⟩
  replace ra := RowAt.below ra hb
  replace h0 := h0.keep hb
  replace h1 := h1.keep hb
  replace hB := below2 hB hb
  clear hb
  go_wp2_with fail
  go_at_call 6; refine (lives_any _).mono ?_; rintro e w4 ⟨rfl, hb⟩
  replace ra := RowAt.below ra hb
  replace h0 := h0.keep hb
  replace h1 := h1.keep hb
  replace h2 := h2.keep hb
  replace hB := below2 hB hb
  clear hb
  go_wp2_with fail
  go_at_call 7; refine (Tr.same_any M _ _ _ h1 h2).mono ?_; rintro e w5 ⟨rfl, hb⟩
  replace ra := RowAt.below ra hb
  replace h0 := h0.keep hb
  replace h1 := h1.keep hb
  replace h2 := h2.keep hb
  replace hB := below2 hB hb
  clear hb
  clear h2
  obtain ⟨a0, a1, af⟩ := cells2 ra
  go_wp2_with fail
  clear a0 a1 af
  go_at_call 8; refine (c3 _ _ h0).mono ?_; rintro e w6 ⟨rfl, hb⟩
  replace ra := RowAt.below ra hb
  replace h0 := h0.keep hb
  replace h1 := h1.keep hb
  replace hB := below2 hB hb
  clear hb
  obtain ⟨Y7, hY⟩ : ∃ Y, Y = (w6.alloc (.cells #[.bool xA, .int .u64 xB, .int .u64 xC, .int .i64 xD, .int .u8 xE, .int .i64 xF] 37)) := ⟨_, rfl⟩
  have hbY : Below w6.heap.size w6 Y7 := by rw [hY]; exact below_new (Below.refl _ _) _
  have hle : w.heap.size ≤ w6.heap.size := hB.size
  obtain ⟨gx, hgx⟩ : ∃ g, g = w6.heap.size := ⟨_, rfl⟩
  have rx : RowAt Y7 gx [.bool xA, .int .u64 xB, .int .u64 xC, .int .i64 xD, .int .u8 xE, .int .i64 xF] 37 := by
    have h := RowAt.new w6 [.bool xA, .int .u64 xB, .int .u64 xC, .int .i64 xD, .int .u8 xE, .int .i64 xF] 37
    rw [hgx, hY]; exact h
  have lex : w.heap.size ≤ gx := by omega
  have neax : ga ≠ gx := by have := RowAt.lt ra; omega
  replace ra := RowAt.below ra hbY
  replace h0 := h0.keep hbY
  replace h1 := h1.keep hbY
  replace hB := below2 hB hbY
  go_upto_region 8 with fail
  rw [← hY, ← hgx]
  clear hY hbY hle hgx
  obtain ⟨a0, a1, af⟩ := cells2 ra
  go_wp2_with fail
  clear a0 a1 af
  go_at_call 8; refine (c4 _ _ h1).mono ?_; rintro e w8 ⟨rfl, hb⟩
  replace ra := RowAt.below ra hb
  replace rx := RowAt.below rx hb
  replace h0 := h0.keep hb
  replace h1 := h1.keep hb
  replace hB := below2 hB hb
  clear hb
  obtain ⟨Y9, hY⟩ : ∃ Y, Y = (w8.alloc (.cells #[.bool yA, .int .u64 yB, .int .u64 yC, .int .i64 yD, .int .u8 xE, .int .i64 xF] 37)) := ⟨_, rfl⟩
  have hbY : Below w8.heap.size w8 Y9 := by rw [hY]; exact below_new (Below.refl _ _) _
  have hle : w.heap.size ≤ w8.heap.size := hB.size
  obtain ⟨gy, hgy⟩ : ∃ g, g = w8.heap.size := ⟨_, rfl⟩
  have ry : RowAt Y9 gy [.bool yA, .int .u64 yB, .int .u64 yC, .int .i64 yD, .int .u8 xE, .int .i64 xF] 37 := by
    have h := RowAt.new w8 [.bool yA, .int .u64 yB, .int .u64 yC, .int .i64 yD, .int .u8 xE, .int .i64 xF] 37
    rw [hgy, hY]; exact h
  have ley : w.heap.size ≤ gy := by omega
  have neay : ga ≠ gy := by have := RowAt.lt ra; omega
  have nexy : gx ≠ gy := by have := RowAt.lt rx; omega
  replace ra := RowAt.below ra hbY
  replace rx := RowAt.below rx hbY
  replace h0 := h0.keep hbY
  replace h1 := h1.keep hbY
  replace hB := below2 hB hbY
  go_upto_region 9 with fail
  rw [← hY, ← hgy]
  clear hY hbY hle hgy
  clear ra
  go_wp2_with fail
  go_at_call 4; refine (c5 _ _ h1).mono ?_; rintro e w10 ⟨o3, m3, rfl, h3, hb⟩
  replace rx := RowAt.below rx hb
  replace ry := RowAt.below ry hb
  replace h0 := h0.keep hb
  replace h1 := h1.keep hb
  replace hB := below2 hB hb
  clear hb
  go_wp2_with fail
  go_at_call 9; refine (c6 _ _ h1).mono ?_; rintro e w11 ⟨rfl, hb⟩
  replace rx := RowAt.below rx hb
  replace ry := RowAt.below ry hb
  replace h0 := h0.keep hb
  replace h1 := h1.keep hb
  replace h3 := h3.keep hb
  replace hB := below2 hB hb
  clear hb
  have x0 := RowAt.cell rx 0
  have x1 := RowAt.cell rx 1
  have x2 := RowAt.cell rx 2
  have x3 := RowAt.cell rx 3
  have x4 := RowAt.cell rx 4
  have x5 := RowAt.cell rx 5
  have xf := RowAt.frozen rx
  simp only [List.getElem?_cons_succ, List.getElem?_cons_zero] at x0 x1 x2 x3 x4 x5
  have y0 := RowAt.cell ry 0
  have y1 := RowAt.cell ry 1
  have y2 := RowAt.cell ry 2
  have y3 := RowAt.cell ry 3
  have y4 := RowAt.cell ry 4
  have y5 := RowAt.cell ry 5
  have yf := RowAt.frozen ry
  simp only [List.getElem?_cons_succ, List.getElem?_cons_zero] at y0 y1 y2 y3 y4 y5
  go_wp2_with fail
  clear x0 x1 x2 x3 x4 x5 xf y0 y1 y2 y3 y4 y5 yf
  go_at_call 7; refine (Tr.same_any M _ _ _ h3 h1).mono ?_; rintro e w12 ⟨rfl, hb⟩
  replace rx := RowAt.below rx hb
  replace ry := RowAt.below ry hb
  replace h0 := h0.keep hb
  replace h1 := h1.keep hb
  replace h3 := h3.keep hb
  replace hB := below2 hB hb
  clear hb
  go_wp2_with fail
  go_ret
  exact ⟨rfl, hB⟩
theorem walk (v : Value) (l : List Rt) (six : Bool) (a : Nat) (w : World) (h0 : HasRts w v l) (hf : ∀ x ∈ l, FitR x) (ha : a < 2 ^ 128) :
    Calls Try.prog 3 #[v, .bool six, adV a] w fun e w' => e = .returned (.bool true) ∧ Below w.heap.size w w' := by
  obtain ⟨o, t, rfl, hq1, hq2⟩ := Lk.HasRow.slice h0
  have c1 := fun W v h => slim_sl l v W h hf
  have c2 := fun W v h => rslim_sl l v W h hf
  cases hok : okT l with
  | false =>
    rw [slim_not hok] at c1 c2
    exact walk_bad six (hiN a : Int) (loN a : Int) l [] o _ t w h0 c1 c2
  | true =>
    have hm := ok_filter (slimR l) hok
    have fm : ∀ x ∈ l.filter (slimR l), FitR x := fun x hx => hf x (List.mem_filter.1 hx).1
    have c5 := fun W v h => slim_sl (l.filter (slimR l)) v W h fm
    have c6 := fun W v h => check_any (l.filter (slimR l)) v W h fm
    have hc : checkT (l.filter (slimR l)) = 0 := by unfold checkT; rw [hm]; rfl
    rw [slim_ok hok] at c1 c2
    rw [slim_twice hok] at c5
    rw [hc] at c6
    obtain ⟨e1, e2⟩ := slim_long hok six a
    have c4 := fun W v h => longest_any (l.filter (slimR l)) v six a W h fm ha
    unfold rtA at c4
    rw [e1, e2] at c4
    exact walk_ok six (hiN a : Int) (loN a : Int) (longT l six a).1.pf.six (hiN (longT l six a).1.pf.n : Int) (loN (longT l six a).1.pf.n : Int) (longT l six a).1.pf.len ((longT l six a).1.act.k : Int) (longT l six a).1.act.i (longT (l.filter (slimR l)) six a).1.pf.six (hiN (longT (l.filter (slimR l)) six a).1.pf.n : Int) (loN (longT (l.filter (slimR l)) six a).1.pf.n : Int) (longT (l.filter (slimR l)) six a).1.pf.len (longT l six a).2 l (l.filter (slimR l)) o _ t (l.filter (slimR l)).length w h0 (by have := List.length_filter_le (slimR l) l; omega)
      c1 c2 (fun W v h => longest_any l v six a W h hf ha) c4 c5 c6 (fun W => by rw [ac_eql, (eqA_iff _ _).2 rfl])

set_option maxRecDepth 100000 in
theorem lifted (os : Os) (started : os.Started) (H : Type) (enc : TypeId × Value → H) :
    ReturnsInHanded {} Try.checked os 3 .any (Rows.trieSlimSpec.pre6 enc Try.prog Try.f3 Rows.trieSlimRow.domain false) (Rows.trieSlimSpec.post enc Try.prog Try.f3 false true false false) := by
  refine returnsInHanded_of_change_sized (C := Try.checked) own started (by kernel_rfl) Try.func3
    (ChangeSpec.witness6 (enc := enc) (C := Try.checked) false ⟨#[], #[.slice none 0 0, .bool false, .agg #[.int .u64 0, .int .u64 0]], []⟩ 8 (by kernel_rfl) (by kernel_rfl) (by kernel_rfl) (by kernel_rfl)) ?_
  intro W base args ds gs before hval0 hW _ hsz0 _
  have hsz : (DataW.weightsEach Try.prog (Try.f3.params.toList ++ Rows.trieSlimSpec.plain.varTypes Try.prog) (ds ++ gs)).all (· ≤ reachBytes) = true := hsz0
  clear hsz0
  have hval : ∀ (j : Nat) t v, Try.f3.params[j]? = some t → args[j]? = some v → Value.okWide Try.prog W .any base t v := hval0
  have hW' := hW
  obtain ⟨p, q, hA0, hV, rfl, hfz, hnd⟩ := hW
  have hA : DataW.TrodAll enc Try.prog W 0 (fun _ => true) true Try.f3.params.toList args.toList ds p := hA0
  rw [Try.params3] at hA hval hsz
  obtain ⟨v0, vs0, d0, ds0, p0, q0, hargs, rfl, rfl, h0, r0⟩ := trodAll_cons hA
  obtain ⟨v1, vs1, d1, ds1, p1, q1, rfl, rfl, rfl, h1, r1⟩ := trodAll_cons r0
  obtain ⟨v2, vs2, d2, ds2, p2, q2, rfl, rfl, rfl, h2, r2⟩ := trodAll_cons r1
  obtain ⟨rfl, rfl, rfl⟩ := trodAll_nil r2
  obtain rfl : args = #[v0, v1, v2] := by cases args; simp_all
  obtain ⟨rfl, rfl⟩ := trodVars_none hV
  obtain ⟨a0, len0, cap0, rfl⟩ := okWide_slice Try.underlying22 (hval 0 22 v0 rfl rfl)
  have k0 := h0
  have lt0 : ∀ x ∈ p0, x.block < W.heap.size := by obtain ⟨m, hm⟩ := k0; exact DataW.trod_lt m _ _ _ hm
  obtain ⟨fuel0, hf0⟩ := h0
  obtain ⟨z0, b0, f0⟩ := Tr.open_routes hf0
  obtain ⟨a1, rfl, rfl, rfl⟩ := open_bool Try.underlying4 (hval 1 4 v1 rfl rfl) h1
  have k2 := h2
  have lt2 : ∀ x ∈ p2, x.block < W.heap.size := by obtain ⟨m, hm⟩ := k2; exact DataW.trod_lt m _ _ _ hm
  obtain ⟨n2, rfl, b2⟩ := Addr.open_addr (hval 2 25 v2 rfl rfl) h2
  clear hA0 hval0
  refine (walk (.slice a0 len0 cap0) z0 a1 n2 W b0 f0 b2).mono fun e W' ⟨he, bel⟩ => ?_
  subst he
  exact ⟨_, rfl, _, _, _, [], _, [], hW', trodAll_mk1 (shut_bool Try.underlying4 _), (trodAll_cons_mk (Below.trod laidOut (by kernel_rfl) (of_decide_eq_true (by kernel_rfl)) k0 bel lt0) (trodAll_cons_mk (shut_bool Try.underlying4 a1) (trodAll_cons_mk (Below.trod laidOut (by kernel_rfl) (of_decide_eq_true (by kernel_rfl)) k2 bel lt2) trodAll_mk0))), rfl, bel.frame _, fun h => by cases h⟩

theorem over : Rows.trieSlimRow.holds Try.pinned (OpenSpec.ofChange Rows.trieSlimSpec) :=
  OpenClaim.holds_of_wide 3 Try.f3 rfl rfl rfl rfl rfl rfl rfl ⟨rfl, rfl, rfl, rfl, rfl⟩ rfl rfl rfl rfl rfl (by kernel_rfl) Try.func3 (by kernel_rfl)
    (of_decide_eq_true (by kernel_rfl)) (by unfold Func.isWrapper; first | (rw [if_pos (by decide +kernel)]; kernel_rfl) | (rw [if_neg (by decide +kernel)]; exact ⟨rfl, rfl⟩))
    (fun os started H enc _ => lifted os started H enc)
end trieSlim
theorem tslim_holds : Rows.TrieSlimSaid := trieSlim.over
#print axioms tslim_holds
end Go.Proofs.Ytaaedgfacnaggaa
