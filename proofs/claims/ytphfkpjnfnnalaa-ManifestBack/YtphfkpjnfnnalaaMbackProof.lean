/- For every manifest and text: spoorlaw06.ManifestBack returns true, and changes nothing that was there. No condition. -/
import Derived.Test.YtphfkpjnfnnalaaRows
import Derived.Test.YtphfkpjnfnnalaaManSame
import Derived.Test.YtphfkpjnfnnalaaManBackM
import Derived.Test.YtphfkpjnfnnalaaManOpen
import Derived.Test.YtphfkpjnfnnalaaQuietBelow
import Derived.ProofKit
import Derived.OpenShut
import Derived.ShutString
import Derived.SizedLaws
set_option linter.unusedVariables false
namespace Go.Proofs.Ytphfkpjnfnnalaa
namespace manifestBack
open Go.ChangeShapes Go.WideShapes Go.ChangeAt Go.RowKit
open Go.ChangeMaps (open_string shut_string)
open Go.Proofs.Ytphfkpjnfnnalaa.Page
open Go.Proofs.Ytphfkpjnfnnalaa.Man

theorem own : ownKnob Try.prog.godebug = none := by kernel_rfl
theorem laidOut : laidOutB Try.prog = true := by kernel_rfl
set_option maxHeartbeats 4000000 in
set_option maxRecDepth 20000 in
theorem good_way (M0 my : ManT) (uo : Option Addr) (uc : Nat) (y3 y4 y5 : Int) (A B S : ByteArray) (w : World) (b0 : HasParts w (.slice uo M0.2.length uc) M0.2)
    (c1 : ∀ W, Below w.heap.size w W → Calls Try.prog 9 #[.agg #[.int .u64 (M0.1 : Int), .slice uo M0.2.length uc]] W fun e w' => e = .returned (.tuple #[.string A, .int .i64 0]) ∧ Below W.heap.size W w')
    (c2 : ∀ W, Calls Try.prog 11 #[.string A] W fun e w' => ∃ xo xc, e = .returned (.tuple #[.agg #[.int .u64 (M0.1 : Int), .slice xo M0.2.length xc], .int .i64 0]) ∧ HasParts w' (.slice xo M0.2.length xc) M0.2 ∧ Below W.heap.size W w')
    (cs : ∀ W v u, HasParts W v M0.2 → HasParts W u M0.2 → Calls Try.prog 16 #[.agg #[.int .u64 (M0.1 : Int), v], .agg #[.int .u64 (M0.1 : Int), u]] W fun e w' => e = .returned (.bool true) ∧ Below W.heap.size W w')
    (c3 : ∀ W, Calls Try.prog 11 #[.string S] W fun e w' => ∃ xo xc, e = .returned (.tuple #[.agg #[.int .u64 (my.1 : Int), .slice xo my.2.length xc], .int .i64 y3]) ∧ HasParts w' (.slice xo my.2.length xc) my.2 ∧ Below W.heap.size W w')
    (c4 : ∀ W v, HasParts W v my.2 → Calls Try.prog 9 #[.agg #[.int .u64 (my.1 : Int), v]] W fun e w' => e = .returned (.tuple #[.string B, .int .i64 y4]) ∧ Below W.heap.size W w')
    (c5 : ∀ W v, HasParts W v my.2 → Calls Try.prog 14 #[.agg #[.int .u64 (my.1 : Int), v]] W fun e w' => e = .returned (.int .i64 y5) ∧ Below W.heap.size W w')
    (hfin : (y3 != 0) = true ∨ y3 = 0 ∧ y4 = 0 ∧ y5 = 0 ∧ (B.toList == S.toList) = true) :
    Calls Try.prog 5 #[.agg #[.int .u64 (M0.1 : Int), .slice uo M0.2.length uc], .string S] w fun e w' => e = .returned (.bool true) ∧ Below w.heap.size w w' := by
  have HP0 : Hid (∀ W, Below w.heap.size w W → HasParts W (.slice uo M0.2.length uc) M0.2) := fun W hb => b0.keep hb
  clear b0
  obtain ⟨X, hX⟩ : ∃ X, X = w.alloc (.cells #[.int .u64 (M0.1 : Int), .slice uo M0.2.length uc] 25) := ⟨_, rfl⟩
  have hB0 : Below w.heap.size w X := by rw [hX]; exact (Below.refl _ w).alloc (Nat.le_refl _) _
  have mb : Hid (MBox X w.heap.size M0.1 (.slice uo M0.2.length uc)) := by rw [hX]; exact RowAt.new w [_, _] _
  go_enter Try.func5, Try.ntmps5
  go_upto_region 1 with fail
  rw [← hX]
  clear hX
  go_wp2_with fail
  go_at_call 13; refine (Man.lives_any _).mono ?_; rintro e w1 ⟨rfl, hb1⟩
  have hW := below2 hB0 hb1
  have mb : Hid (MBox w1 w.heap.size M0.1 (.slice uo M0.2.length uc)) := RowAt.below mb.out hb1
  obtain ⟨m0, m1⟩ := MBox.cells mb.out
  clear hB0 hb1
  go_wp2_with fail
  go_at_call 9; refine (c1 _ hW).mono ?_; rintro e w2 ⟨rfl, hb2⟩
  have hW := below2 hW hb2
  have mb : Hid (MBox w2 w.heap.size M0.1 (.slice uo M0.2.length uc)) := RowAt.below mb.out hb2
  clear m0 m1 c1 hb2
  go_wp2_with fail
  go_at_call 11; refine (c2 _).mono ?_; rintro e w3 ⟨xo, xc, rfl, hxp, hb3⟩
  have hW := below2 hW hb3
  have mb : Hid (MBox w3 w.heap.size M0.1 (.slice uo M0.2.length uc)) := RowAt.below mb.out hb3
  obtain ⟨X3, hX3⟩ : ∃ X, X = w3.alloc (.cells #[.int .u64 (M0.1 : Int), .slice xo M0.2.length xc] 25) := ⟨_, rfl⟩
  obtain ⟨bx, hbx⟩ : ∃ b, b = w3.heap.size := ⟨_, rfl⟩
  have hb4 : Below w3.heap.size w3 X3 := by rw [hX3]; exact (Below.refl _ _).alloc (Nat.le_refl _) _
  have hW := below2 hW hb4
  have mb : Hid (MBox X3 w.heap.size M0.1 (.slice uo M0.2.length uc)) := RowAt.below mb.out hb4
  have xb : Hid (MBox X3 bx M0.1 (.slice xo M0.2.length xc)) := by rw [hX3, hbx]; exact RowAt.new w3 [_, _] _
  have hxp := hxp.keep hb4
  go_upto_region 5 with fail
  rw [← hX3, ← hbx]
  clear hX3 hbx hb3 hb4 c2
  obtain ⟨m0, m1⟩ := MBox.cells mb.out
  obtain ⟨x0, x1⟩ := MBox.cells xb.out
  go_wp2_with fail
  go_at_call 16; refine (cs _ _ _ hxp (HP0.out _ hW)).mono ?_; rintro e w4 ⟨rfl, hb4⟩
  have hW := below2 hW hb4
  clear m0 m1 x0 x1 cs hxp hb4 mb xb HP0
  go_wp2_with fail
  go_at_call 11; refine (c3 _).mono ?_; rintro e w5 ⟨yo, yc, rfl, hyp, hb5⟩
  have hW := below2 hW hb5
  obtain ⟨X5, hX5⟩ : ∃ X, X = w5.alloc (.cells #[.int .u64 (my.1 : Int), .slice yo my.2.length yc] 25) := ⟨_, rfl⟩
  obtain ⟨by', hby⟩ : ∃ b, b = w5.heap.size := ⟨_, rfl⟩
  have hb6 : Below w5.heap.size w5 X5 := by rw [hX5]; exact (Below.refl _ _).alloc (Nat.le_refl _) _
  have hW := below2 hW hb6
  have yb : Hid (MBox X5 by' my.1 (.slice yo my.2.length yc)) := by rw [hX5, hby]; exact RowAt.new w5 [_, _] _
  have hyp := hyp.keep hb6
  go_upto_region 8 with fail
  rw [← hX5, ← hby]
  clear hX5 hby hb5 hb6 c3
  obtain ⟨y0, y1'⟩ := MBox.cells yb.out
  go_wp2_with fail
  go_at_call 9; refine (c4 _ _ hyp).mono ?_; rintro e w7 ⟨rfl, hb7⟩
  have hW := below2 hW hb7
  have yb : Hid (MBox w7 by' my.1 (.slice yo my.2.length yc)) := RowAt.below yb.out hb7
  have hyp := hyp.keep hb7
  clear y0 y1' c4 hb7
  obtain ⟨y0, y1'⟩ := MBox.cells yb.out
  rcases hfin with hfin | ⟨rfl, rfl, rfl, hfin⟩
  · clear hyp yb
    go_wp2
    go_ret
    exact ⟨rfl, hW⟩
  · go_wp2_with fail
    go_at_call 14; refine (c5 _ _ hyp).mono ?_; rintro e w8 ⟨rfl, hb8⟩
    have hW := below2 hW hb8
    clear y0 y1' c5 hyp yb
    go_wp2
    go_ret
    exact ⟨rfl, hW⟩
set_option maxHeartbeats 4000000 in
set_option maxRecDepth 20000 in
theorem bad_way (M0 my : ManT) (xm : ManT) (y2 : Int) (uo : Option Addr) (uc : Nat) (y1 : Int) (hy1 : y1 ≠ 0) (y3 y4 y5 : Int) (A B S : ByteArray) (w : World) (b0 : HasParts w (.slice uo M0.2.length uc) M0.2)
    (c1 : ∀ W, Below w.heap.size w W → Calls Try.prog 9 #[.agg #[.int .u64 (M0.1 : Int), .slice uo M0.2.length uc]] W fun e w' => e = .returned (.tuple #[.string A, .int .i64 y1]) ∧ Below W.heap.size W w')
    (c2 : ∀ W, Calls Try.prog 11 #[.string A] W fun e w' => ∃ xo xc, e = .returned (.tuple #[.agg #[.int .u64 (xm.1 : Int), .slice xo xm.2.length xc], .int .i64 y2]) ∧ HasParts w' (.slice xo xm.2.length xc) xm.2 ∧ Below W.heap.size W w')
    (c3 : ∀ W, Calls Try.prog 11 #[.string S] W fun e w' => ∃ xo xc, e = .returned (.tuple #[.agg #[.int .u64 (my.1 : Int), .slice xo my.2.length xc], .int .i64 y3]) ∧ HasParts w' (.slice xo my.2.length xc) my.2 ∧ Below W.heap.size W w')
    (c4 : ∀ W v, HasParts W v my.2 → Calls Try.prog 9 #[.agg #[.int .u64 (my.1 : Int), v]] W fun e w' => e = .returned (.tuple #[.string B, .int .i64 y4]) ∧ Below W.heap.size W w')
    (c5 : ∀ W v, HasParts W v my.2 → Calls Try.prog 14 #[.agg #[.int .u64 (my.1 : Int), v]] W fun e w' => e = .returned (.int .i64 y5) ∧ Below W.heap.size W w')
    (hfin : (y3 != 0) = true ∨ y3 = 0 ∧ y4 = 0 ∧ y5 = 0 ∧ (B.toList == S.toList) = true) :
    Calls Try.prog 5 #[.agg #[.int .u64 (M0.1 : Int), .slice uo M0.2.length uc], .string S] w fun e w' => e = .returned (.bool true) ∧ Below w.heap.size w w' := by
  have hy2 : (y1 == 0) = false := by simpa using hy1
  clear hy1
  have HP0 : Hid (∀ W, Below w.heap.size w W → HasParts W (.slice uo M0.2.length uc) M0.2) := fun W hb => b0.keep hb
  clear b0
  obtain ⟨X, hX⟩ : ∃ X, X = w.alloc (.cells #[.int .u64 (M0.1 : Int), .slice uo M0.2.length uc] 25) := ⟨_, rfl⟩
  have hB0 : Below w.heap.size w X := by rw [hX]; exact (Below.refl _ w).alloc (Nat.le_refl _) _
  have mb : Hid (MBox X w.heap.size M0.1 (.slice uo M0.2.length uc)) := by rw [hX]; exact RowAt.new w [_, _] _
  go_enter Try.func5, Try.ntmps5
  go_upto_region 1 with fail
  rw [← hX]
  clear hX
  go_wp2_with fail
  go_at_call 13; refine (Man.lives_any _).mono ?_; rintro e w1 ⟨rfl, hb1⟩
  have hW := below2 hB0 hb1
  have mb : Hid (MBox w1 w.heap.size M0.1 (.slice uo M0.2.length uc)) := RowAt.below mb.out hb1
  obtain ⟨m0, m1⟩ := MBox.cells mb.out
  clear hB0 hb1
  go_wp2_with fail
  go_at_call 9; refine (c1 _ hW).mono ?_; rintro e w2 ⟨rfl, hb2⟩
  have hW := below2 hW hb2
  have mb : Hid (MBox w2 w.heap.size M0.1 (.slice uo M0.2.length uc)) := RowAt.below mb.out hb2
  clear m0 m1 c1 hb2
  go_wp2_with fail
  go_at_call 11; refine (c2 _).mono ?_; rintro e w3 ⟨xo, xc, rfl, hxp, hb3⟩
  have hW := below2 hW hb3
  have mb : Hid (MBox w3 w.heap.size M0.1 (.slice uo M0.2.length uc)) := RowAt.below mb.out hb3
  obtain ⟨X3, hX3⟩ : ∃ X, X = w3.alloc (.cells #[.int .u64 (xm.1 : Int), .slice xo xm.2.length xc] 25) := ⟨_, rfl⟩
  obtain ⟨bx, hbx⟩ : ∃ b, b = w3.heap.size := ⟨_, rfl⟩
  have hb4 : Below w3.heap.size w3 X3 := by rw [hX3]; exact (Below.refl _ _).alloc (Nat.le_refl _) _
  have hW := below2 hW hb4
  have mb : Hid (MBox X3 w.heap.size M0.1 (.slice uo M0.2.length uc)) := RowAt.below mb.out hb4
  have xb : Hid (MBox X3 bx xm.1 (.slice xo xm.2.length xc)) := by rw [hX3, hbx]; exact RowAt.new w3 [_, _] _
  have hxp := hxp.keep hb4
  go_upto_region 5 with fail
  rw [← hX3, ← hbx]
  clear hX3 hbx hb3 hb4 c2
  clear hxp mb xb HP0
  go_wp2_with fail
  go_at_call 11; refine (c3 _).mono ?_; rintro e w5 ⟨yo, yc, rfl, hyp, hb5⟩
  have hW := below2 hW hb5
  obtain ⟨X5, hX5⟩ : ∃ X, X = w5.alloc (.cells #[.int .u64 (my.1 : Int), .slice yo my.2.length yc] 25) := ⟨_, rfl⟩
  obtain ⟨by', hby⟩ : ∃ b, b = w5.heap.size := ⟨_, rfl⟩
  have hb6 : Below w5.heap.size w5 X5 := by rw [hX5]; exact (Below.refl _ _).alloc (Nat.le_refl _) _
  have hW := below2 hW hb6
  have yb : Hid (MBox X5 by' my.1 (.slice yo my.2.length yc)) := by rw [hX5, hby]; exact RowAt.new w5 [_, _] _
  have hyp := hyp.keep hb6
  go_upto_region 8 with fail
  rw [← hX5, ← hby]
  clear hX5 hby hb5 hb6 c3
  obtain ⟨y0, y1'⟩ := MBox.cells yb.out
  go_wp2_with fail
  go_at_call 9; refine (c4 _ _ hyp).mono ?_; rintro e w7 ⟨rfl, hb7⟩
  have hW := below2 hW hb7
  have yb : Hid (MBox w7 by' my.1 (.slice yo my.2.length yc)) := RowAt.below yb.out hb7
  have hyp := hyp.keep hb7
  clear y0 y1' c4 hb7
  obtain ⟨y0, y1'⟩ := MBox.cells yb.out
  rcases hfin with hfin | ⟨rfl, rfl, rfl, hfin⟩
  · clear hyp yb
    go_wp2
    go_ret
    exact ⟨rfl, hW⟩
  · go_wp2_with fail
    go_at_call 14; refine (c5 _ _ hyp).mono ?_; rintro e w8 ⟨rfl, hb8⟩
    have hW := below2 hW hb8
    clear y0 y1' c5 hyp yb
    go_wp2
    go_ret
    exact ⟨rfl, hW⟩
theorem walk (u0 : Value) (M0 : ManT) (a1 : ByteArray) (w : World) (b0 : HasParts w u0 M0.2) (f0 : FitM M0) (b1 : a1.size ≤ 140737488351232) :
    Calls Try.prog 5 #[.agg #[.int .u64 (M0.1 : Int), u0], .string a1] w fun e w' => e = .returned (.bool true) ∧ Below w.heap.size w w' := by
  obtain ⟨s, rfl, hsl⟩ := str_list a1
  have c1 := fun W (hb : Below w.heap.size w W) => mput_any M0 u0 W (b0.keep hb) f0
  unfold StrIs at c1
  obtain ⟨uo, uc, rfl, _, _⟩ := b0.form
  have form : ∀ (t : List UInt8) (ht : t.length ≤ 9223372036854775807) W, Calls Try.prog 11 #[.string ⟨t.toArray⟩] W fun e w' => ∃ xo xc, e = .returned (.tuple #[.agg #[.int .u64 ((getM t).1.1 : Int), .slice xo (getM t).1.2.length xc], .int .i64 (getM t).2]) ∧ HasParts w' (.slice xo (getM t).1.2.length xc) (getM t).1.2 ∧ Below W.heap.size W w' := by
    intro t ht W
    refine (get_core t W ht).mono ?_
    rintro e w' ⟨v, rfl, hp, hb⟩
    obtain ⟨xo, xc, rfl, _, _⟩ := hp.form
    exact ⟨xo, xc, rfl, hp, hb⟩
  have fm : FitM (getM s).1 := getM_fit s
  have c3 := fun W => form s (by omega) W
  have c4 := fun W v (h : HasParts W v (getM s).1.2) => mput_any (getM s).1 v W h fm
  unfold StrIs at c4
  have c5 := fun W v (h : HasParts W v (getM s).1.2) => check_any (getM s).1 v W h fm
  have hfin : ((getM s).2 != 0) = true ∨ (getM s).2 = 0 ∧ (putM (getM s).1).2 = 0 ∧ checkM (getM s).1 = 0 ∧ ((⟨(putM (getM s).1).1.toArray⟩ : ByteArray).toList == (⟨s.toArray⟩ : ByteArray).toList) = true := by
    by_cases h0 : (getM s).2 = 0
    · obtain ⟨h1, h2⟩ := get_ok h0
      have hp : putM (getM s).1 = (s, 0) := by rw [putM, if_pos h1, h2]
      exact .inr ⟨h0, by rw [hp], checkM_ok h1, beq_iff_eq.2 (by rw [hp])⟩
    · exact .inl (by simpa using h0)
  cases hok : okM M0
  · have hp : putM M0 = ([], 2) := by rw [putM, hok]; rfl
    rw [hp] at c1
    exact bad_way M0 (getM s).1 _ _ uo uc 2 (by decide) _ _ _ _ _ _ w b0 c1 (fun W => form [] (by simp) W) c3 c4 c5 hfin
  · have hp : putM M0 = (sectL M0, 0) := by rw [putM, if_pos hok]
    rw [hp] at c1
    have hn8 := (okM_parts hok).2.1
    have c2 := fun W => form (sectL M0) (by rw [sectL_len M0 hn8]; omega) W
    rw [get_sect hok] at c2
    exact good_way M0 (getM s).1 uo uc _ _ _ _ _ _ w b0 c1 c2 (fun W v u h1 h2 => msame_any M0 v u W h1 h2 f0.1 hn8) c3 c4 c5 hfin

set_option maxRecDepth 100000 in
theorem lifted (os : Os) (started : os.Started) (H : Type) (enc : TypeId × Value → H) :
    ReturnsInHanded {} Try.checked os 5 .any (Rows.manifestBackSpec.pre6 enc Try.prog Try.f5 Rows.manifestBackRow.domain false) (Rows.manifestBackSpec.post enc Try.prog Try.f5 false true false false) := by
  refine returnsInHanded_of_change_sized (C := Try.checked) own started (by kernel_rfl) Try.func5
    (ChangeSpec.witness6 (enc := enc) (C := Try.checked) false ⟨#[], #[.agg #[.int .u64 0, .slice none 0 0], .string ByteArray.empty], []⟩ 8 (by kernel_rfl) (by kernel_rfl) (by kernel_rfl) (by kernel_rfl)) ?_
  intro W base args ds gs before hval0 hW _ hsz0 _
  have hsz : (DataW.weightsEach Try.prog (Try.f5.params.toList ++ Rows.manifestBackSpec.plain.varTypes Try.prog) (ds ++ gs)).all (· ≤ reachBytes) = true := hsz0
  clear hsz0
  have hval : ∀ (j : Nat) t v, Try.f5.params[j]? = some t → args[j]? = some v → Value.okWide Try.prog W .any base t v := hval0
  have hW' := hW
  obtain ⟨p, q, hA0, hV, rfl, hfz, hnd⟩ := hW
  have hA : DataW.TrodAll enc Try.prog W 0 (fun _ => true) true Try.f5.params.toList args.toList ds p := hA0
  rw [Try.params5] at hA hval hsz
  obtain ⟨v0, vs0, d0, ds0, p0, q0, hargs, rfl, rfl, h0, r0⟩ := trodAll_cons hA
  obtain ⟨v1, vs1, d1, ds1, p1, q1, rfl, rfl, rfl, h1, r1⟩ := trodAll_cons r0
  obtain ⟨rfl, rfl, rfl⟩ := trodAll_nil r1
  obtain rfl : args = #[v0, v1] := by cases args; simp_all
  obtain ⟨rfl, rfl⟩ := trodVars_none hV
  have k0 := h0
  have lt0 : ∀ x ∈ p0, x.block < W.heap.size := by obtain ⟨m, hm⟩ := k0; exact DataW.trod_lt m _ _ _ hm
  obtain ⟨M0, u0, rfl, b0, f0⟩ := Man.open_manifest (hval 0 25 v0 rfl rfl) h0
  obtain ⟨a1, rfl, rfl, rfl, w1⟩ := open_string Try.underlying9 (hval 1 9 v1 rfl rfl) h1
  have b1 : a1.size ≤ 140737488351232 := by
    have := sized_string hsz (j := 1) (t := 9) rfl rfl
    simpa [reachBytes] using this
  clear hA0 hval0
  refine (walk u0 M0 a1 W b0 f0 b1).mono fun e W' ⟨he, bel⟩ => ?_
  subst he
  exact ⟨_, rfl, _, _, _, [], _, [], hW', trodAll_mk1 (shut_bool Try.underlying4 _), (trodAll_cons_mk (Below.trod laidOut (by kernel_rfl) (of_decide_eq_true (by kernel_rfl)) k0 bel lt0) (trodAll_cons_mk (shut_string Try.underlying9 w1) trodAll_mk0)), rfl, bel.frame _, fun h => by cases h⟩

theorem over : Rows.manifestBackRow.holds Try.pinned (OpenSpec.ofChange Rows.manifestBackSpec) :=
  OpenClaim.holds_of_wide 5 Try.f5 rfl rfl rfl rfl rfl rfl rfl ⟨rfl, rfl, rfl, rfl, rfl⟩ rfl rfl rfl rfl rfl (by kernel_rfl) Try.func5 (by kernel_rfl)
    (of_decide_eq_true (by kernel_rfl)) (by unfold Func.isWrapper; first | (rw [if_pos (by decide +kernel)]; kernel_rfl) | (rw [if_neg (by decide +kernel)]; exact ⟨rfl, rfl⟩))
    (fun os started H enc _ => lifted os started H enc)
end manifestBack
theorem mback_holds : Rows.ManifestBackSaid := manifestBack.over
#print axioms mback_holds
end Go.Proofs.Ytphfkpjnfnnalaa
