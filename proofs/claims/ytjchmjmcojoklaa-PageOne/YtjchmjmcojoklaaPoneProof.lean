/- For every sector and two tags: spoorlaw05.PageOne returns true, and changes nothing that was there. No condition. -/
import Derived.Test.YtjchmjmcojoklaaRows
import Derived.Test.YtjchmjmcojoklaaPageLives
import Derived.ProofKit
import Derived.OpenShut
import Derived.ShutString
import Derived.SizedLaws
set_option linter.unusedVariables false
namespace Go.Proofs.Ytjchmjmcojoklaa
namespace pageOne
open Go.ChangeShapes Go.WideShapes Go.ChangeAt Go.RowKit
open Go.ChangeMaps (open_string shut_string)
open Go.Proofs.Ytjchmjmcojoklaa.Page

theorem own : ownKnob Try.prog.godebug = none := by kernel_rfl
theorem laidOut : laidOutB Try.prog = true := by kernel_rfl

set_option maxHeartbeats 1000000 in
theorem walk0 (l : List UInt8) (t o : Nat) (w : World) (hl : l.length ≤ 140737488351232) (ht : t < 18446744073709551616) (ho : o < 18446744073709551616) :
    Calls Try.prog 6 #[.string ⟨l.toArray⟩, .int .u64 (t : Int), .int .u64 (o : Int)] w fun e w' => e = .returned (.bool true) ∧ Below w.heap.size w w' := by
  have hv := lives_any
  have c1 := fun w => get_any l t w (by omega) ht
  have c3 := fun w => get_any l o w (by omega) ho
  unfold StrIs at c1 c3
  obtain ⟨⟨d, y⟩, hg⟩ : ∃ g, getL l t = g := ⟨_, rfl⟩
  obtain ⟨⟨d2, y2⟩, hg2⟩ : ∃ g, getL l o = g := ⟨_, rfl⟩
  rw [hg] at c1
  rw [hg2] at c3
  simp only at c1 c3
  by_cases hy : y = 0
  · subst hy
    obtain ⟨e1, e2, e3, e4, e5⟩ := getL_inv hg
    have c2 := fun w => put_any t d w ht (by omega)
    rw [putL_ok e3 e2, ← e1] at c2
    unfold StrIs at c2
    simp only at c2
    have hiff : (y2 = 0) ↔ (o = t) := by
      constructor
      · intro h
        subst h
        have := (getL_inv hg2).2.2.2.2
        rw [e5] at this
        injection this with h _; exact h.symm
      · rintro rfl
        rw [hg] at hg2; injection hg2 with _ h; exact h.symm
    have hb : ((y2 == 0) == ((o : Int) == (t : Int))) = true := by
      by_cases h : o = t
      · have h2 := hiff.2 h
        subst h; subst h2; simp
      · have h2 : ¬ y2 = 0 := fun hc => h (hiff.1 hc)
        have h3 : ¬ ((o : Int) = (t : Int)) := by omega
        rw [beq_eq_false_iff_ne.2 h2, beq_eq_false_iff_ne.2 h3]; rfl
    generalize (⟨l.toArray⟩ : ByteArray) = S at c1 c2 c3 ⊢
    generalize (⟨d.toArray⟩ : ByteArray) = D at c1 c2
    clear hg hg2 e1 e2 e3 e4 e5 hiff
    go_enter Try.func6, Try.ntmps6
    go_wp2_with fail
    go_at_call 14; refine (hv _).mono ?_; rintro e w1 ⟨rfl, hW⟩
    go_wp2_with fail
    go_at_call 10; refine (c1 _).mono ?_; rintro e w2 ⟨rfl, hb2⟩
    have hW := below2 hW hb2
    go_wp2_with fail
    go_at_call 8; refine (c2 _).mono ?_; rintro e w3 ⟨rfl, hb3⟩
    have hW := below2 hW hb3
    go_wp2_with fail
    go_at_call 10; refine (c3 _).mono ?_; rintro e w4 ⟨rfl, hb4⟩
    have hW := below2 hW hb4
    clear c1 c2 c3 hv hb2 hb3 hb4
    go_wp2
    go_ret
    exact ⟨by first | rfl | simp [hb], hW⟩
  · have hd : d = [] := by
      have := getL_bad (s := l) (t := t) (by rw [hg]; exact hy)
      rw [hg] at this; injection this
    subst hd
    have hy2 : (y != 0) = true := by simpa using hy
    clear hg hg2 c3
    go_enter Try.func6, Try.ntmps6
    go_wp2_with fail
    go_at_call 14; refine (hv _).mono ?_; rintro e w1 ⟨rfl, hW⟩
    go_wp2_with fail
    go_at_call 10; refine (c1 _).mono ?_; rintro e w2 ⟨rfl, hb2⟩
    have hW := below2 hW hb2
    go_wp2
    go_ret
    exact ⟨rfl, hW⟩
theorem walk (a0 : ByteArray) (a1 a2 : Int) (w : World) (b0 : a0.size ≤ 140737488351232) (b1 : 0 ≤ a1 ∧ a1 ≤ 18446744073709551615) (b2 : 0 ≤ a2 ∧ a2 ≤ 18446744073709551615) :
    Calls Try.prog 6 #[.string a0, .int .u64 a1, .int .u64 a2] w fun e w' => e = .returned (.bool true) ∧ Below w.heap.size w w' := by
  obtain ⟨l, rfl, hl⟩ := str_list a0
  obtain ⟨t, rfl⟩ := Int.eq_ofNat_of_zero_le b1.1
  obtain ⟨o, rfl⟩ := Int.eq_ofNat_of_zero_le b2.1
  exact walk0 l t o w (by omega) (by omega) (by omega)

set_option maxRecDepth 100000 in
theorem lifted (os : Os) (started : os.Started) (H : Type) (enc : TypeId × Value → H) :
    ReturnsInHanded {} Try.checked os 6 .any (Rows.pageOneSpec.pre6 enc Try.prog Try.f6 Rows.pageOneRow.domain false) (Rows.pageOneSpec.post enc Try.prog Try.f6 false true false false) := by
  refine returnsInHanded_of_change_sized (C := Try.checked) own started (by kernel_rfl) Try.func6
    (ChangeSpec.witness6 (enc := enc) (C := Try.checked) false ⟨#[], #[.string ByteArray.empty, .int .u64 0, .int .u64 0], []⟩ 8 (by kernel_rfl) (by kernel_rfl) (by kernel_rfl) (by kernel_rfl)) ?_
  intro W base args ds gs before hval0 hW _ hsz0 _
  have hsz : (DataW.weightsEach Try.prog (Try.f6.params.toList ++ Rows.pageOneSpec.plain.varTypes Try.prog) (ds ++ gs)).all (· ≤ reachBytes) = true := hsz0
  clear hsz0
  have hval : ∀ (j : Nat) t v, Try.f6.params[j]? = some t → args[j]? = some v → Value.okWide Try.prog W .any base t v := hval0
  have hW' := hW
  obtain ⟨p, q, hA0, hV, rfl, hfz, hnd⟩ := hW
  have hA : DataW.TrodAll enc Try.prog W 0 (fun _ => true) true Try.f6.params.toList args.toList ds p := hA0
  rw [Try.params6] at hA hval hsz
  obtain ⟨v0, vs0, d0, ds0, p0, q0, hargs, rfl, rfl, h0, r0⟩ := trodAll_cons hA
  obtain ⟨v1, vs1, d1, ds1, p1, q1, rfl, rfl, rfl, h1, r1⟩ := trodAll_cons r0
  obtain ⟨v2, vs2, d2, ds2, p2, q2, rfl, rfl, rfl, h2, r2⟩ := trodAll_cons r1
  obtain ⟨rfl, rfl, rfl⟩ := trodAll_nil r2
  obtain rfl : args = #[v0, v1, v2] := by cases args; simp_all
  obtain ⟨rfl, rfl⟩ := trodVars_none hV
  obtain ⟨a0, rfl, rfl, rfl, w0⟩ := open_string Try.underlying9 (hval 0 9 v0 rfl rfl) h0
  have b0 : a0.size ≤ 140737488351232 := by
    have := sized_string hsz (j := 0) (t := 9) rfl rfl
    simpa [reachBytes] using this
  obtain ⟨a1, rfl, rfl, rfl, w1⟩ := open_int Try.underlying22 (hval 1 22 v1 rfl rfl) h1
  have b1 : 0 ≤ a1 ∧ a1 ≤ 18446744073709551615 := by simpa [Lit.wf, IntKind.min, IntKind.max, IntKind.signed, IntKind.bits] using w1
  obtain ⟨a2, rfl, rfl, rfl, w2⟩ := open_int Try.underlying22 (hval 2 22 v2 rfl rfl) h2
  have b2 : 0 ≤ a2 ∧ a2 ≤ 18446744073709551615 := by simpa [Lit.wf, IntKind.min, IntKind.max, IntKind.signed, IntKind.bits] using w2
  clear hA0 hval0
  refine (walk a0 a1 a2 W b0 b1 b2).mono fun e W' ⟨he, bel⟩ => ?_
  subst he
  exact ⟨_, rfl, _, _, _, [], _, [], hW', trodAll_mk1 (shut_bool Try.underlying4 _), (trodAll_cons_mk (shut_string Try.underlying9 w0) (trodAll_cons_mk (shut_int Try.underlying22 w1) (trodAll_cons_mk (shut_int Try.underlying22 w2) trodAll_mk0))), rfl, bel.frame _, fun h => by cases h⟩

theorem over : Rows.pageOneRow.holds Try.pinned (OpenSpec.ofChange Rows.pageOneSpec) :=
  OpenClaim.holds_of_wide 6 Try.f6 rfl rfl rfl rfl rfl rfl rfl ⟨rfl, rfl, rfl, rfl, rfl⟩ rfl rfl rfl rfl rfl (by kernel_rfl) Try.func6 (by kernel_rfl)
    (of_decide_eq_true (by kernel_rfl)) (by unfold Func.isWrapper; first | (rw [if_pos (by decide +kernel)]; kernel_rfl) | (rw [if_neg (by decide +kernel)]; exact ⟨rfl, rfl⟩))
    (fun os started H enc _ => lifted os started H enc)
end pageOne
theorem pone_holds : Rows.PageOneSaid := pageOne.over
#print axioms pone_holds
end Go.Proofs.Ytjchmjmcojoklaa
