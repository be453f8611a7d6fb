/- For every kind of addresses and any row of spans: spoorlaw10.SpanPrefixes returns true, and changes nothing that was there. No condition. -/
import Derived.Test.YtiemlaehhmlhmaaRows
import Derived.Test.YtiemlaehhmlhmaaSpPZ
import Derived.Test.YtiemlaehhmlhmaaSpSame
import Derived.Test.YtiemlaehhmlhmaaSpFew
import Derived.Test.YtiemlaehhmlhmaaSpLives
import Derived.Test.YtiemlaehhmlhmaaSpOpen
import Derived.ProofKit
import Derived.OpenShut
import Derived.ShutString
import Derived.SizedLaws
set_option linter.unusedVariables false
namespace Go.Proofs.Ytiemlaehhmlhmaa
namespace spanPrefixes
open Go.ChangeShapes Go.WideShapes Go.ChangeAt Go.RowKit
open Go.ChangeMaps (open_string shut_string)
open Go.Proofs.Ytiemlaehhmlhmaa.Sp
open Go.Proofs.Ytiemlaehhmlhmaa.Lk (HasRow)
open Go.Proofs.Ytiemlaehhmlhmaa.Addr (Pf pfV okP lastN rightB hiN loN adV RowAt below2 below_drew below_new bset RowAt.lt RowAt.cell RowAt.frozen RowAt.below RowAt.drew RowAt.new RowAt.alloc cells2 cells4)
theorem own : ownKnob Try.prog.godebug = none := by kernel_rfl
theorem laidOut : laidOutB Try.prog = true := by kernel_rfl
set_option maxHeartbeats 16000000 in
set_option maxRecDepth 20000 in
theorem walk (six : Bool) (v : Value) (l : List Sp) (w : World) (b1 : HasSps w v l) (f1 : ∀ s ∈ l, FitS s) :
    Calls Try.prog 5 #[.bool six, v] w fun e w' => e = .returned (.bool true) ∧ Below w.heap.size w w' := by
  have c0 := fun (W : World) => lives_any W
  have cp := fun (W : World) (h : HasSps W v l) => prefixes_any six l v W h f1
  have rp := fun (W : World) (h : HasSps W v l) => rprefixes_any six l v W h f1
  obtain ⟨o1, c1, rfl, _, _⟩ := HasRow.slice b1
  have cf := fun (b : Nat) (W : World) (h : W.cell? ⟨b, 0, none⟩ = some (.slice o1 l.length c1)) => few1_any l.length b c1 o1 W h
  have hB : Below w.heap.size w w := Below.refl _ _
  generalize prefE six l = R at cp rp
  obtain ⟨P, y⟩ := R
  simp only at cp rp
  clear f1
  generalize l.length = n at *
  generalize fewB n = F at *
  obtain ⟨X1, hX1⟩ : ∃ X, X = w.alloc (.cells #[.slice o1 n c1] 22) := ⟨_, rfl⟩
  have hb2 : Below w.heap.size w X1 := by rw [hX1]; exact below_new (Below.refl _ _) _
  have rf : RowAt X1 w.heap.size [.slice o1 n c1] 22 := by rw [hX1]; exact RowAt.new _ _ _
  replace b1 := b1.keep hb2
  replace hB := below2 hB hb2
  have cf0 := cf w.heap.size X1 (rf.cell 0)
  go_enter Try.func5, Try.ntmps5
  go_wp2_with fail
  rw [← hX1]
  clear hX1 hb2 cf rf
  go_at_call 9; refine cf0.mono ?_; rintro e w1 ⟨rfl, hb⟩
  replace hB := below2 hB hb
  replace b1 := b1.keep hb
  clear hb cf0
  cases F
  · clear cp rp
    go_wp2_with fail
    go_at_call 10; refine (c0 _).mono ?_; rintro e w2 ⟨rfl, hb⟩
    replace hB := below2 hB hb
    go_wp2_with fail
    go_ret
    exact ⟨rfl, hB⟩
  · go_wp2_with fail
    go_at_call 26; refine (cp _ b1).mono ?_; rintro e w2 ⟨u1, rfl, hO1⟩
    replace hB := below2 hB hO1.bl
    replace b1 := b1.keep hO1.bl
    have hr1 := hO1.has
    clear hO1 cp
    go_wp2_with fail
    go_at_call 27; refine (rp _ b1).mono ?_; rintro e w3 ⟨u2, rfl, hO2⟩
    replace hB := below2 hB hO2.bl
    replace hr1 := hr1.keep hO2.bl
    have hr2 := hO2.has
    clear hO2 rp b1
    have ca := fun (W : World) (h1 : HasPfs W u1 P) (h2 : HasPfs W u2 P) => alike_any P u1 u2 W h1 h2
    go_wp2_with fail
    go_at_call 10; refine (c0 _).mono ?_; rintro e w4 ⟨rfl, hb⟩
    replace hB := below2 hB hb
    replace hr1 := hr1.keep hb
    replace hr2 := hr2.keep hb
    clear hb c0
    go_wp2_with fail
    go_at_call 28; refine (ca _ hr1 hr2).mono ?_; rintro e w5 ⟨rfl, hb⟩
    replace hB := below2 hB hb
    clear hb ca hr1 hr2
    go_wp2_with fail
    go_ret
    exact ⟨rfl, hB⟩
set_option maxRecDepth 100000 in
theorem lifted (os : Os) (started : os.Started) (H : Type) (enc : TypeId × Value → H) :
    ReturnsInHanded {} Try.checked os 5 .any (Rows.spanPrefixesSpec.pre6 enc Try.prog Try.f5 Rows.spanPrefixesRow.domain false) (Rows.spanPrefixesSpec.post enc Try.prog Try.f5 false true false false) := by
  refine returnsInHanded_of_change_sized (C := Try.checked) own started (by kernel_rfl) Try.func5
    (ChangeSpec.witness6 (enc := enc) (C := Try.checked) false ⟨#[], #[.bool false, .slice none 0 0], []⟩ 8 (by kernel_rfl) (by kernel_rfl) (by kernel_rfl) (by kernel_rfl)) ?_
  intro W base args ds gs before hval0 hW _ hsz0 _
  have hsz : (DataW.weightsEach Try.prog (Try.f5.params.toList ++ Rows.spanPrefixesSpec.plain.varTypes Try.prog) (ds ++ gs)).all (· ≤ reachBytes) = true := hsz0
  clear hsz0
  have hval : ∀ (j : Nat) t v, Try.f5.params[j]? = some t → args[j]? = some v → Value.okWide Try.prog W .any base t v := hval0
  have hW' := hW
  obtain ⟨p, q, hA0, hV, rfl, hfz, hnd⟩ := hW
  have hA : DataW.TrodAll enc Try.prog W 0 (fun _ => true) true Try.f5.params.toList args.toList ds p := hA0
  rw [Try.params5] at hA hval hsz
  obtain ⟨v0, vs0, d0, ds0, p0, q0, hargs, rfl, rfl, h0, r0⟩ := trodAll_cons hA
  obtain ⟨v1, vs1, d1, ds1, p1, q1, rfl, rfl, rfl, h1, r1⟩ := trodAll_cons r0
  obtain ⟨rfl, rfl, rfl⟩ := trodAll_nil r1
  obtain rfl : args = #[v0, v1] := by cases args; simp_all
  obtain ⟨rfl, rfl⟩ := trodVars_none hV
  obtain ⟨a0, rfl, rfl, rfl⟩ := open_bool Try.underlying4 (hval 0 4 v0 rfl rfl) h0
  obtain ⟨a1, len1, cap1, rfl⟩ := okWide_slice Try.underlying22 (hval 1 22 v1 rfl rfl)
  have k1 := h1
  have lt1 : ∀ x ∈ p1, x.block < W.heap.size := by obtain ⟨m, hm⟩ := k1; exact DataW.trod_lt m _ _ _ hm
  obtain ⟨fuel1, hf1⟩ := h1
  obtain ⟨z1, b1, f1⟩ := Sp.open_spans hf1
  clear hA0 hval0
  refine (walk a0 (.slice a1 len1 cap1) z1 W b1 f1).mono fun e W' ⟨he, bel⟩ => ?_
  subst he
  exact ⟨_, rfl, _, _, _, [], _, [], hW', trodAll_mk1 (shut_bool Try.underlying4 _), (trodAll_cons_mk (shut_bool Try.underlying4 a0) (trodAll_cons_mk (Below.trod laidOut (by kernel_rfl) (of_decide_eq_true (by kernel_rfl)) k1 bel lt1) trodAll_mk0)), rfl, bel.frame _, fun h => by cases h⟩

theorem over : Rows.spanPrefixesRow.holds Try.pinned (OpenSpec.ofChange Rows.spanPrefixesSpec) :=
  OpenClaim.holds_of_wide 5 Try.f5 rfl rfl rfl rfl rfl rfl rfl ⟨rfl, rfl, rfl, rfl, rfl⟩ rfl rfl rfl rfl rfl (by kernel_rfl) Try.func5 (by kernel_rfl)
    (of_decide_eq_true (by kernel_rfl)) (by unfold Func.isWrapper; first | (rw [if_pos (by decide +kernel)]; kernel_rfl) | (rw [if_neg (by decide +kernel)]; exact ⟨rfl, rfl⟩))
    (fun os started H enc _ => lifted os started H enc)
end spanPrefixes
theorem span_prefixes_holds : Rows.SpanPrefixesSaid := spanPrefixes.over
#print axioms span_prefixes_holds
end Go.Proofs.Ytiemlaehhmlhmaa
