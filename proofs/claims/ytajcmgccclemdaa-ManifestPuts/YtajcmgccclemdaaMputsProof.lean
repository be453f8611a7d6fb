/- For every manifest and text: spoorlaw06.ManifestPuts returns true, and changes nothing that was there. No condition. -/
import Derived.Test.YtajcmgccclemdaaRows
import Derived.Test.YtajcmgccclemdaaManRefGet
import Derived.Test.YtajcmgccclemdaaManSame
import Derived.Test.YtajcmgccclemdaaManLives
import Derived.Test.YtajcmgccclemdaaManOpen
import Derived.Test.YtajcmgccclemdaaQuietBelow
import Derived.ProofKit
import Derived.OpenShut
import Derived.ShutString
import Derived.SizedLaws
set_option linter.unusedVariables false
namespace Go.Proofs.Ytajcmgccclemdaa
namespace manifestPuts
open Go.ChangeShapes Go.WideShapes Go.ChangeAt Go.RowKit
open Go.ChangeMaps (open_string shut_string)
open Go.Proofs.Ytajcmgccclemdaa.Page
open Go.Proofs.Ytajcmgccclemdaa.Man

theorem own : ownKnob Try.prog.godebug = none := by kernel_rfl
theorem laidOut : laidOutB Try.prog = true := by kernel_rfl
set_option maxHeartbeats 4000000 in
set_option maxRecDepth 20000 in
theorem core (M0 my : ManT) (uo : Option Addr) (uc : Nat) (y1 y3 ck : Int) (A S : ByteArray) (w : World) (b0 : HasParts w (.slice uo M0.2.length uc) M0.2)
    (c1 : ∀ W, Below w.heap.size w W → Calls Try.prog 9 #[.agg #[.int .u64 (M0.1 : Int), .slice uo M0.2.length uc]] W fun e w' => e = .returned (.tuple #[.string A, .int .i64 y1]) ∧ Below W.heap.size W w')
    (c2 : ∀ W, Below w.heap.size w W → Calls Try.prog 10 #[.agg #[.int .u64 (M0.1 : Int), .slice uo M0.2.length uc]] W fun e w' => e = .returned (.tuple #[.string A, .int .i64 y1]) ∧ Below W.heap.size W w')
    (c3 : ∀ W, Calls Try.prog 11 #[.string S] W fun e w' => ∃ xo xc, e = .returned (.tuple #[.agg #[.int .u64 (my.1 : Int), .slice xo my.2.length xc], .int .i64 y3]) ∧ HasParts w' (.slice xo my.2.length xc) my.2 ∧ Below W.heap.size W w')
    (c4 : ∀ W, Calls Try.prog 12 #[.string S] W fun e w' => ∃ xo xc, e = .returned (.tuple #[.agg #[.int .u64 (my.1 : Int), .slice xo my.2.length xc], .int .i64 y3]) ∧ HasParts w' (.slice xo my.2.length xc) my.2 ∧ Below W.heap.size W w')
    (c5 : ∀ W, Below w.heap.size w W → Calls Try.prog 14 #[.agg #[.int .u64 (M0.1 : Int), .slice uo M0.2.length uc]] W fun e w' => e = .returned (.int .i64 ck) ∧ Below W.heap.size W w')
    (c6 : ∀ W, Below w.heap.size w W → Calls Try.prog 15 #[.agg #[.int .u64 (M0.1 : Int), .slice uo M0.2.length uc]] W fun e w' => e = .returned (.int .i64 ck) ∧ Below W.heap.size W w')
    (cs : ∀ W v u, HasParts W v my.2 → HasParts W u my.2 → Calls Try.prog 16 #[.agg #[.int .u64 (my.1 : Int), v], .agg #[.int .u64 (my.1 : Int), u]] W fun e w' => e = .returned (.bool true) ∧ Below W.heap.size W w') :
    Calls Try.prog 3 #[.agg #[.int .u64 (M0.1 : Int), .slice uo M0.2.length uc], .string S] w fun e w' => e = .returned (.bool true) ∧ Below w.heap.size w w' := by
  clear b0
  obtain ⟨X, hX⟩ : ∃ X, X = w.alloc (.cells #[.int .u64 (M0.1 : Int), .slice uo M0.2.length uc] 25) := ⟨_, rfl⟩
  have hB0 : Below w.heap.size w X := by rw [hX]; exact (Below.refl _ w).alloc (Nat.le_refl _) _
  have mb : Hid (MBox X w.heap.size M0.1 (.slice uo M0.2.length uc)) := by rw [hX]; exact RowAt.new w [_, _] _
  obtain ⟨m0, m1⟩ := MBox.cells mb.out
  go_enter Try.func3, Try.ntmps3
  go_upto_region 1 with fail
  rw [← hX]
  clear hX
  go_wp2_with fail
  go_at_call 9; refine (c1 _ hB0).mono ?_; rintro e w1 ⟨rfl, hb1⟩
  have hW := below2 hB0 hb1
  have mb : Hid (MBox w1 w.heap.size M0.1 (.slice uo M0.2.length uc)) := RowAt.below mb.out hb1
  clear m0 m1 c1 hb1 hB0
  obtain ⟨m0, m1⟩ := MBox.cells mb.out
  go_wp2_with fail
  go_at_call 10; refine (c2 _ hW).mono ?_; rintro e w2 ⟨rfl, hb2⟩
  have hW := below2 hW hb2
  have mb : Hid (MBox w2 w.heap.size M0.1 (.slice uo M0.2.length uc)) := RowAt.below mb.out hb2
  clear m0 m1 c2 hb2
  go_wp2_with fail
  go_at_call 11; refine (c3 _).mono ?_; rintro e w3 ⟨xo, xc, rfl, hxp, hb3⟩
  have hW := below2 hW hb3
  have mb : Hid (MBox w3 w.heap.size M0.1 (.slice uo M0.2.length uc)) := RowAt.below mb.out hb3
  obtain ⟨X3, hX3⟩ : ∃ X, X = w3.alloc (.cells #[.int .u64 (my.1 : Int), .slice xo my.2.length xc] 25) := ⟨_, rfl⟩
  obtain ⟨bx, hbx⟩ : ∃ b, b = w3.heap.size := ⟨_, rfl⟩
  have hb4 : Below w3.heap.size w3 X3 := by rw [hX3]; exact (Below.refl _ _).alloc (Nat.le_refl _) _
  have hW := below2 hW hb4
  have mb : Hid (MBox X3 w.heap.size M0.1 (.slice uo M0.2.length uc)) := RowAt.below mb.out hb4
  have xb : Hid (MBox X3 bx my.1 (.slice xo my.2.length xc)) := by rw [hX3, hbx]; exact RowAt.new w3 [_, _] _
  have hxp := hxp.keep hb4
  go_upto_region 4 with fail
  rw [← hX3, ← hbx]
  clear hX3 hbx hb3 hb4 c3
  go_wp2_with fail
  go_at_call 12; refine (c4 _).mono ?_; rintro e w5 ⟨yo, yc, rfl, hyp, hb5⟩
  have hW := below2 hW hb5
  obtain ⟨X5, hX5⟩ : ∃ X, X = w5.alloc (.cells #[.int .u64 (my.1 : Int), .slice yo my.2.length yc] 25) := ⟨_, rfl⟩
  obtain ⟨by', hby⟩ : ∃ b, b = w5.heap.size := ⟨_, rfl⟩
  have hb6 : Below w5.heap.size w5 X5 := by rw [hX5]; exact (Below.refl _ _).alloc (Nat.le_refl _) _
  have hW := below2 hW hb6
  have mb : Hid (MBox X5 w.heap.size M0.1 (.slice uo M0.2.length uc)) := RowAt.below mb.out (below2 hb5 hb6)
  have xb : Hid (MBox X5 bx my.1 (.slice xo my.2.length xc)) := RowAt.below xb.out (below2 hb5 hb6)
  have yb : Hid (MBox X5 by' my.1 (.slice yo my.2.length yc)) := by rw [hX5, hby]; exact RowAt.new w5 [_, _] _
  have hxp := hxp.keep (below2 hb5 hb6)
  have hyp := hyp.keep hb6
  go_upto_region 5 with fail
  rw [← hX5, ← hby]
  clear hX5 hby hb5 hb6 c4
  have z0 := fun p : Bl X5 => (MBox.cells (RowAt.below mb.out p.h)).1
  have z1 := fun p : Bl X5 => (MBox.cells (RowAt.below mb.out p.h)).2
  have z2 := fun p : Bl X5 => (MBox.cells (RowAt.below xb.out p.h)).1
  have z3 := fun p : Bl X5 => (MBox.cells (RowAt.below xb.out p.h)).2
  have z4 := fun p : Bl X5 => (MBox.cells (RowAt.below yb.out p.h)).1
  have z5 := fun p : Bl X5 => (MBox.cells (RowAt.below yb.out p.h)).2
  have K1 := fun p : Bl X5 => c5 p.W (below2 hW p.h)
  have K2 := fun p : Bl X5 => c6 p.W (below2 hW p.h)
  have K3 := fun p : Bl X5 => cs p.W _ _ (hxp.keep p.h) (hyp.keep p.h)
  have heq : (A.toList == A.toList) = true := by simp
  clear mb xb yb hxp hyp c5 c6 cs
  haveI := bl_ne X5
  refine wp_region_bl (by kernel_rfl) (by kernel_rfl) ?_
  repeat (quiet_step ((first | (go_at_call 13; with_reducible exact bl_call (Man.lives_any _)) | (go_at_call 14; with_reducible exact bl_call (K1 _)) | (go_at_call 15; with_reducible exact bl_call (K2 _)) | (go_at_call 16; with_reducible exact bl_call (K3 _)))))
  refine wpQuiet_nil ?_
  intro _ hw'
  obtain ⟨⟨wq, hq⟩, hw2⟩ := hw'
  subst hw2
  have hW := below2 hW hq
  go_wp2
  go_ret
  exact ⟨rfl, hW⟩
theorem walk (u0 : Value) (M0 : ManT) (a1 : ByteArray) (w : World) (b0 : HasParts w u0 M0.2) (f0 : FitM M0) (b1 : a1.size ≤ 140737488351232) :
    Calls Try.prog 3 #[.agg #[.int .u64 (M0.1 : Int), u0], .string a1] w fun e w' => e = .returned (.bool true) ∧ Below w.heap.size w w' := by
  obtain ⟨s, rfl, hsl⟩ := str_list a1
  have c1 := fun W (hb : Below w.heap.size w W) => mput_any M0 u0 W (b0.keep hb) f0
  have c2 := fun W (hb : Below w.heap.size w W) => rmput_any M0 u0 W (b0.keep hb) f0
  have c5 := fun W (hb : Below w.heap.size w W) => check_any M0 u0 W (b0.keep hb) f0
  have c6 := fun W (hb : Below w.heap.size w W) => rmcheck_any M0 u0 W (b0.keep hb) f0
  unfold StrIs at c1 c2
  obtain ⟨uo, uc, rfl, _, _⟩ := b0.form
  have form : ∀ F W, Calls Try.prog F #[.string ⟨s.toArray⟩] W (ManIs (getM s) W) → Calls Try.prog F #[.string ⟨s.toArray⟩] W fun e w' => ∃ xo xc, e = .returned (.tuple #[.agg #[.int .u64 ((getM s).1.1 : Int), .slice xo (getM s).1.2.length xc], .int .i64 (getM s).2]) ∧ HasParts w' (.slice xo (getM s).1.2.length xc) (getM s).1.2 ∧ Below W.heap.size W w' := by
    intro F W hc
    refine hc.mono ?_
    rintro e w' ⟨v, rfl, hp, hb⟩
    obtain ⟨xo, xc, rfl, _, _⟩ := hp.form
    exact ⟨xo, xc, rfl, hp, hb⟩
  have hn8 : (getM s).1.2.length ≤ 8 := by
    by_cases h0 : (getM s).2 = 0
    · exact (okM_parts (get_ok h0).1).2.1
    · rw [getM_bad s h0]; simp
  exact core M0 (getM s).1 uo uc _ _ _ _ _ w b0 c1 c2 (fun W => form _ W (get_core s W (by omega))) (fun W => form _ W (rmget_any s W (by omega))) c5 c6 (fun W v u h1 h2 => msame_any (getM s).1 v u W h1 h2 (getM_lt s) hn8)

set_option maxRecDepth 100000 in
theorem lifted (os : Os) (started : os.Started) (H : Type) (enc : TypeId × Value → H) :
    ReturnsInHanded {} Try.checked os 3 .any (Rows.manifestPutsSpec.pre6 enc Try.prog Try.f3 Rows.manifestPutsRow.domain false) (Rows.manifestPutsSpec.post enc Try.prog Try.f3 false true false false) := by
  refine returnsInHanded_of_change_sized (C := Try.checked) own started (by kernel_rfl) Try.func3
    (ChangeSpec.witness6 (enc := enc) (C := Try.checked) false ⟨#[], #[.agg #[.int .u64 0, .slice none 0 0], .string ByteArray.empty], []⟩ 8 (by kernel_rfl) (by kernel_rfl) (by kernel_rfl) (by kernel_rfl)) ?_
  intro W base args ds gs before hval0 hW _ hsz0 _
  have hsz : (DataW.weightsEach Try.prog (Try.f3.params.toList ++ Rows.manifestPutsSpec.plain.varTypes Try.prog) (ds ++ gs)).all (· ≤ reachBytes) = true := hsz0
  clear hsz0
  have hval : ∀ (j : Nat) t v, Try.f3.params[j]? = some t → args[j]? = some v → Value.okWide Try.prog W .any base t v := hval0
  have hW' := hW
  obtain ⟨p, q, hA0, hV, rfl, hfz, hnd⟩ := hW
  have hA : DataW.TrodAll enc Try.prog W 0 (fun _ => true) true Try.f3.params.toList args.toList ds p := hA0
  rw [Try.params3] at hA hval hsz
  obtain ⟨v0, vs0, d0, ds0, p0, q0, hargs, rfl, rfl, h0, r0⟩ := trodAll_cons hA
  obtain ⟨v1, vs1, d1, ds1, p1, q1, rfl, rfl, rfl, h1, r1⟩ := trodAll_cons r0
  obtain ⟨rfl, rfl, rfl⟩ := trodAll_nil r1
  obtain rfl : args = #[v0, v1] := by cases args; simp_all
  obtain ⟨rfl, rfl⟩ := trodVars_none hV
  have k0 := h0
  have lt0 : ∀ x ∈ p0, x.block < W.heap.size := by obtain ⟨m, hm⟩ := k0; exact DataW.trod_lt m _ _ _ hm
  obtain ⟨M0, u0, rfl, b0, f0⟩ := Man.open_manifest (hval 0 25 v0 rfl rfl) h0
  obtain ⟨a1, rfl, rfl, rfl, w1⟩ := open_string Try.underlying9 (hval 1 9 v1 rfl rfl) h1
  have b1 : a1.size ≤ 140737488351232 := by
    have := sized_string hsz (j := 1) (t := 9) rfl rfl
    simpa [reachBytes] using this
  clear hA0 hval0
  refine (walk u0 M0 a1 W b0 f0 b1).mono fun e W' ⟨he, bel⟩ => ?_
  subst he
  exact ⟨_, rfl, _, _, _, [], _, [], hW', trodAll_mk1 (shut_bool Try.underlying4 _), (trodAll_cons_mk (Below.trod laidOut (by kernel_rfl) (of_decide_eq_true (by kernel_rfl)) k0 bel lt0) (trodAll_cons_mk (shut_string Try.underlying9 w1) trodAll_mk0)), rfl, bel.frame _, fun h => by cases h⟩

theorem over : Rows.manifestPutsRow.holds Try.pinned (OpenSpec.ofChange Rows.manifestPutsSpec) :=
  OpenClaim.holds_of_wide 3 Try.f3 rfl rfl rfl rfl rfl rfl rfl ⟨rfl, rfl, rfl, rfl, rfl⟩ rfl rfl rfl rfl rfl (by kernel_rfl) Try.func3 (by kernel_rfl)
    (of_decide_eq_true (by kernel_rfl)) (by unfold Func.isWrapper; first | (rw [if_pos (by decide +kernel)]; kernel_rfl) | (rw [if_neg (by decide +kernel)]; exact ⟨rfl, rfl⟩))
    (fun os started H enc _ => lifted os started H enc)
end manifestPuts
theorem mputs_holds : Rows.ManifestPutsSaid := manifestPuts.over
#print axioms mputs_holds
end Go.Proofs.Ytajcmgccclemdaa
