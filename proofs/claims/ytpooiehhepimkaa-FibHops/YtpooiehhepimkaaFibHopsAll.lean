/- For all routers, kinds and addresses: spoorlaw17.FibHops returns true, and changes nothing that was there. No condition. -/
import Derived.Test.YtpooiehhepimkaaRows
import Derived.Test.YtpooiehhepimkaaFibLZ
import Derived.Test.YtpooiehhepimkaaFibZ
import Derived.Test.YtpooiehhepimkaaAddrOpen
import Derived.Test.YtpooiehhepimkaaMsgOpen
import Derived.Test.YtpooiehhepimkaaFibRZ
import Derived.ProofKit
import Derived.OpenShut
import Derived.ShutString
import Derived.SizedLaws
set_option linter.unusedVariables false
namespace Go.Proofs.Ytpooiehhepimkaa
namespace fibHops
open Go.ChangeShapes Go.WideShapes Go.ChangeAt Go.RowKit
open Go.ChangeMaps (open_string shut_string)
open Go.Proofs.Ytpooiehhepimkaa.Lk (Lk HasLks FitL lkV peerL HasLks.keep)
open Go.Proofs.Ytpooiehhepimkaa.Tr (Rt HasRts HasRts.keep FitR FitP)
open Go.Proofs.Ytpooiehhepimkaa.Msg (Ev Ac FitA FitE evV evC acV)
open Go.Proofs.Ytpooiehhepimkaa.Fib
open Go.Proofs.Ytpooiehhepimkaa.Addr (Pf pfV adV hasB hiN loN rightB RowAt below2 below_drew below_new bset RowAt.lt RowAt.cell RowAt.frozen RowAt.below RowAt.drew RowAt.new RowAt.alloc RowAt.gkeep cells2 cells4)
theorem own : ownKnob Try.prog.godebug = none := by kernel_rfl
theorem laidOut : laidOutB Try.prog = true := by kernel_rfl
set_option maxHeartbeats 16000000 in
set_option maxRecDepth 20000 in
theorem walks (id : Int) (up : Bool) (rts : List Rt) (lks : List Lk) (o2 o3 : Option Addr) (n2 n3 m2 m3 : Nat) (six : Bool) (ah al hk hp z : Int) (w : World) (ha0 : HasRts w (.slice o2 n2 m2) rts) (hb0 : HasLks w (.slice o3 n3 m3) lks)
    (c1 : ∀ W, HasRts W (.slice o2 n2 m2) rts → HasLks W (.slice o3 n3 m3) lks → Calls Try.prog 7 #[.agg #[.int .i64 id, .bool up, .slice o2 n2 m2, .slice o3 n3 m3], .bool six, .agg #[.int .u64 ah, .int .u64 al]] W fun e w' => e = .returned (.tuple #[.agg #[.int .u8 hk, .int .i64 hp], .int .i64 z]) ∧ Below W.heap.size W w')
    (c2 : ∀ W, HasRts W (.slice o2 n2 m2) rts → HasLks W (.slice o3 n3 m3) lks → Calls Try.prog 8 #[.agg #[.int .i64 id, .bool up, .slice o2 n2 m2, .slice o3 n3 m3], .bool six, .agg #[.int .u64 ah, .int .u64 al]] W fun e w' => e = .returned (.tuple #[.agg #[.int .u8 hk, .int .i64 hp], .int .i64 z]) ∧ Below W.heap.size W w') :
    Calls Try.prog 3 #[.agg #[.int .i64 id, .bool up, .slice o2 n2 m2, .slice o3 n3 m3], .bool six, .agg #[.int .u64 ah, .int .u64 al]] w (BoolIs true w) := by
  have hB := Below.refl w.heap.size w
  go_enter Try.func3, Try.ntmps3
  obtain ⟨Y1, hY⟩ : ∃ Y, Y = ((w.alloc (.cells #[.int .i64 id, .bool up, .slice o2 n2 m2, .slice o3 n3 m3] 25)).alloc (.cells #[.int .u64 ah, .int .u64 al] 28)) := ⟨_, rfl⟩
  have hbY : Below w.heap.size w Y1 := by rw [hY]; exact below_new (below_new (Below.refl _ _) _) _
  have hle : w.heap.size ≤ w.heap.size := hB.size
  obtain ⟨gr, hgr⟩ : ∃ g, g = w.heap.size := ⟨_, rfl⟩
  have rr : RowAt Y1 gr [.int .i64 id, .bool up, .slice o2 n2 m2, .slice o3 n3 m3] 25 := by
    have h := (RowAt.new w [.int .i64 id, .bool up, .slice o2 n2 m2, .slice o3 n3 m3] 25).alloc (.cells #[.int .u64 ah, .int .u64 al] 28)
    rw [hgr, hY]; exact h
  have ler : w.heap.size ≤ gr := by omega
  obtain ⟨ga, hga⟩ : ∃ g, g = w.heap.size + 1 := ⟨_, rfl⟩
  have ra : RowAt Y1 ga [.int .u64 ah, .int .u64 al] 28 := by
    have h := RowAt.new (w.alloc (.cells #[.int .i64 id, .bool up, .slice o2 n2 m2, .slice o3 n3 m3] 25)) [.int .u64 ah, .int .u64 al] 28
    simp only [World.size_alloc] at h
    rw [hga, hY]; exact h
  have lea : w.heap.size ≤ ga := by omega
  have nera : gr ≠ ga := by omega
  replace ha0 := ha0.keep hbY
  replace hb0 := hb0.keep hbY
  replace hB := below2 hB hbY
  go_upto_region 1 with fail
  rw [← hY, ← hga, ← hgr]
  clear hY hbY hle hgr hga
  obtain ⟨r0, r1, r2, r3, rf⟩ := cells4 rr
  obtain ⟨a0, a1, af⟩ := cells2 ra
  go_wp2_with fail
  clear r0 r1 r2 r3 rf a0 a1 af
  go_at_call 7; refine (c1 _ ha0 hb0).mono ?_; rintro e w2 ⟨rfl, hb⟩
  replace rr := RowAt.below rr hb
  replace ra := RowAt.below ra hb
  replace ha0 := ha0.keep hb
  replace hb0 := hb0.keep hb
  replace hB := below2 hB hb
  clear hb
  obtain ⟨Y3, hY⟩ : ∃ Y, Y = (w2.alloc (.cells #[.int .u8 hk, .int .i64 hp] 31)) := ⟨_, rfl⟩
  have hbY : Below w2.heap.size w2 Y3 := by rw [hY]; exact below_new (Below.refl _ _) _
  have hle : w.heap.size ≤ w2.heap.size := hB.size
  obtain ⟨gh, hgh⟩ : ∃ g, g = w2.heap.size := ⟨_, rfl⟩
  have rh : RowAt Y3 gh [.int .u8 hk, .int .i64 hp] 31 := by
    have h := RowAt.new w2 [.int .u8 hk, .int .i64 hp] 31
    rw [hgh, hY]; exact h
  have leh : w.heap.size ≤ gh := by omega
  have nerh : gr ≠ gh := by have := RowAt.lt rr; omega
  have neah : ga ≠ gh := by have := RowAt.lt ra; omega
  replace rr := RowAt.below rr hbY
  replace ra := RowAt.below ra hbY
  replace ha0 := ha0.keep hbY
  replace hb0 := hb0.keep hbY
  replace hB := below2 hB hbY
  go_upto_region 2 with fail
  rw [← hY, ← hgh]
  clear hY hbY hle hgh
  obtain ⟨r0, r1, r2, r3, rf⟩ := cells4 rr
  obtain ⟨a0, a1, af⟩ := cells2 ra
  go_wp2_with fail
  clear r0 r1 r2 r3 rf a0 a1 af
  go_at_call 8; refine (c2 _ ha0 hb0).mono ?_; rintro e w4 ⟨rfl, hb⟩
  replace rr := RowAt.below rr hb
  replace ra := RowAt.below ra hb
  replace rh := RowAt.below rh hb
  replace ha0 := ha0.keep hb
  replace hb0 := hb0.keep hb
  replace hB := below2 hB hb
  clear hb
  obtain ⟨Y5, hY⟩ : ∃ Y, Y = (w4.alloc (.cells #[.int .u8 hk, .int .i64 hp] 31)) := ⟨_, rfl⟩
  have hbY : Below w4.heap.size w4 Y5 := by rw [hY]; exact below_new (Below.refl _ _) _
  have hle : w.heap.size ≤ w4.heap.size := hB.size
  obtain ⟨gk, hgk⟩ : ∃ g, g = w4.heap.size := ⟨_, rfl⟩
  have rk : RowAt Y5 gk [.int .u8 hk, .int .i64 hp] 31 := by
    have h := RowAt.new w4 [.int .u8 hk, .int .i64 hp] 31
    rw [hgk, hY]; exact h
  have lek : w.heap.size ≤ gk := by omega
  have nerk : gr ≠ gk := by have := RowAt.lt rr; omega
  have neak : ga ≠ gk := by have := RowAt.lt ra; omega
  have nehk : gh ≠ gk := by have := RowAt.lt rh; omega
  replace rr := RowAt.below rr hbY
  replace ra := RowAt.below ra hbY
  replace rh := RowAt.below rh hbY
  replace ha0 := ha0.keep hbY
  replace hb0 := hb0.keep hbY
  replace hB := below2 hB hbY
  go_upto_region 3 with fail
  rw [← hY, ← hgk]
  clear hY hbY hle hgk
  clear rr ra ha0 hb0
  go_wp2_with fail
  go_at_call 9; refine (lives_any _).mono ?_; rintro e w6 ⟨rfl, hb⟩
  replace rh := RowAt.below rh hb
  replace rk := RowAt.below rk hb
  replace hB := below2 hB hb
  clear hb
  obtain ⟨h0, h1, hf⟩ := cells2 rh
  obtain ⟨k0, k1, kf⟩ := cells2 rk
  go_wp2_with fail
  go_ret
  exact ⟨rfl, hB⟩
theorem walk (R : Ro) (x y : Value) (six : Bool) (a : Nat) (w : World) (b0 : HasRts w x R.rts) (c0 : HasLks w y R.lks) (f0 : FitRo R) (b2 : a < 2 ^ 128) :
    Calls Try.prog 3 #[.agg #[.int .i64 R.id, .bool R.up, x, y], .bool six, adV a] w fun e w' => e = .returned (.bool true) ∧ Below w.heap.size w w' := by
  obtain ⟨o2, m2, rfl, _⟩ := Lk.HasRow.slice b0
  obtain ⟨o3, m3, rfl, _⟩ := Lk.HasRow.slice c0
  exact walks R.id R.up R.rts R.lks o2 o3 _ _ m2 m3 six _ _ _ _ _ w b0 c0 (fun W h h' => hop_any R six a _ _ W h h' f0 b2) (fun W h h' => rhop_any R six a _ _ W h h' f0 b2)

set_option maxRecDepth 100000 in
theorem lifted (os : Os) (started : os.Started) (H : Type) (enc : TypeId × Value → H) :
    ReturnsInHanded {} Try.checked os 3 .any (Rows.fibHopsSpec.pre6 enc Try.prog Try.f3 Rows.fibHopsRow.domain false) (Rows.fibHopsSpec.post enc Try.prog Try.f3 false true false false) := by
  refine returnsInHanded_of_change_sized (C := Try.checked) own started (by kernel_rfl) Try.func3
    (ChangeSpec.witness6 (enc := enc) (C := Try.checked) false ⟨#[], #[.agg #[.int .i64 0, .bool false, .slice none 0 0, .slice none 0 0], .bool false, .agg #[.int .u64 0, .int .u64 0]], []⟩ 8 (by kernel_rfl) (by kernel_rfl) (by kernel_rfl) (by kernel_rfl)) ?_
  intro W base args ds gs before hval0 hW _ hsz0 _
  have hsz : (DataW.weightsEach Try.prog (Try.f3.params.toList ++ Rows.fibHopsSpec.plain.varTypes Try.prog) (ds ++ gs)).all (· ≤ reachBytes) = true := hsz0
  clear hsz0
  have hval : ∀ (j : Nat) t v, Try.f3.params[j]? = some t → args[j]? = some v → Value.okWide Try.prog W .any base t v := hval0
  have hW' := hW
  obtain ⟨p, q, hA0, hV, rfl, hfz, hnd⟩ := hW
  have hA : DataW.TrodAll enc Try.prog W 0 (fun _ => true) true Try.f3.params.toList args.toList ds p := hA0
  rw [Try.params3] at hA hval hsz
  obtain ⟨v0, vs0, d0, ds0, p0, q0, hargs, rfl, rfl, h0, r0⟩ := trodAll_cons hA
  obtain ⟨v1, vs1, d1, ds1, p1, q1, rfl, rfl, rfl, h1, r1⟩ := trodAll_cons r0
  obtain ⟨v2, vs2, d2, ds2, p2, q2, rfl, rfl, rfl, h2, r2⟩ := trodAll_cons r1
  obtain ⟨rfl, rfl, rfl⟩ := trodAll_nil r2
  obtain rfl : args = #[v0, v1, v2] := by cases args; simp_all
  obtain ⟨rfl, rfl⟩ := trodVars_none hV
  have k0 := h0
  have lt0 : ∀ x ∈ p0, x.block < W.heap.size := by obtain ⟨m, hm⟩ := k0; exact DataW.trod_lt m _ _ _ hm
  obtain ⟨R0, x0, y0, rfl, b0, c0, f0⟩ := Fib.open_router (hval 0 25 v0 rfl rfl) h0
  obtain ⟨a1, rfl, rfl, rfl⟩ := open_bool Try.underlying4 (hval 1 4 v1 rfl rfl) h1
  have k2 := h2
  have lt2 : ∀ x ∈ p2, x.block < W.heap.size := by obtain ⟨m, hm⟩ := k2; exact DataW.trod_lt m _ _ _ hm
  obtain ⟨n2, rfl, b2⟩ := Addr.open_addr (hval 2 28 v2 rfl rfl) h2
  clear hA0 hval0
  refine (walk R0 x0 y0 a1 n2 W b0 c0 f0 b2).mono fun e W' ⟨he, bel⟩ => ?_
  subst he
  exact ⟨_, rfl, _, _, _, [], _, [], hW', trodAll_mk1 (shut_bool Try.underlying4 _), (trodAll_cons_mk (Below.trod laidOut (by kernel_rfl) (of_decide_eq_true (by kernel_rfl)) k0 bel lt0) (trodAll_cons_mk (shut_bool Try.underlying4 a1) (trodAll_cons_mk (Below.trod laidOut (by kernel_rfl) (of_decide_eq_true (by kernel_rfl)) k2 bel lt2) trodAll_mk0))), rfl, bel.frame _, fun h => by cases h⟩

theorem over : Rows.fibHopsRow.holds Try.pinned (OpenSpec.ofChange Rows.fibHopsSpec) :=
  OpenClaim.holds_of_wide 3 Try.f3 rfl rfl rfl rfl rfl rfl rfl ⟨rfl, rfl, rfl, rfl, rfl⟩ rfl rfl rfl rfl rfl (by kernel_rfl) Try.func3 (by kernel_rfl)
    (of_decide_eq_true (by kernel_rfl)) (by unfold Func.isWrapper; first | (rw [if_pos (by decide +kernel)]; kernel_rfl) | (rw [if_neg (by decide +kernel)]; exact ⟨rfl, rfl⟩))
    (fun os started H enc _ => lifted os started H enc)
end fibHops
theorem fhops_holds : Rows.FibHopsSaid := fibHops.over
#print axioms fhops_holds
end Go.Proofs.Ytpooiehhepimkaa
