/- For every row of numbers, and every text: spoorlaw01.NumRows returns true, and changes nothing that was there. No condition. -/
import Derived.Test.YtmbciomfkiadiaaRows
import Derived.Test.YtmbciomfkiadiaaWalkRows
import Derived.ProofKit
import Derived.OpenShut
import Derived.ShutString
import Derived.SizedLaws
import Derived.ChangeOld
set_option linter.unusedVariables false
namespace Go.Proofs.Ytmbciomfkiadiaa
namespace numRows
open Go.ChangeShapes Go.WideShapes Go.ChangeAt Go.RowKit
open Go.ChangeMaps (open_string shut_string)

theorem own : ownKnob Try.prog.godebug = none := by kernel_rfl
theorem laidOut : laidOutB Try.prog = true := by kernel_rfl

theorem core (a : Option Addr) (len cap : Nat) (l : List UInt8) (w : World) (A : ByteArray) (y : Int) (hlen : len ≤ 9223372036854775807)
    (c1 : Calls Try.prog 14 #[.slice a len cap] w fun e w' => e = .returned (.tuple #[.string A, .int .i64 y]) ∧ Below w.heap.size w w')
    (c2 : ∀ w', Below w.heap.size w w' → Calls Try.prog 15 #[.slice a len cap] w' fun e w'' => e = .returned (.tuple #[.string A, .int .i64 y]) ∧ Below w'.heap.size w' w'')
    (b1 : l.length ≤ 281474976710656) :
    Calls Try.prog 5 #[.slice a len cap, .string ⟨l.toArray⟩] w fun e w' => e = .returned (.bool true) ∧ Below w.heap.size w w' := by
  have c3 := fun w => getRow_any l w b1
  have c4 := fun w => rgetRow_any l w b1
  obtain ⟨⟨ns, q, z⟩, hr⟩ : ∃ r, getRowL l = r := ⟨_, rfl⟩
  simp only [hr] at c3 c4
  clear hr
  have hn : ∀ w, Calls Try.prog 18 #[] w fun e w' => e = .returned (.bool true) ∧ Below w.heap.size w w' := rows_any
  go_enter Try.func5, Try.ntmps5
  go_wp2_with fail
  go_at_call 14; refine c1.mono ?_; rintro e w1 ⟨rfl, hb1⟩
  go_wp2_with fail
  go_at_call 15; refine (c2 w1 hb1).mono ?_; rintro e w2 ⟨rfl, hb2⟩
  clear c1 c2
  go_wp2_with fail
  go_at_call 16; refine (c3 _).mono ?_; rintro e w3 ⟨v, rfl, hv, hb3⟩
  have hv3 := reads_own hv
  clear hv
  go_wp2_with fail
  go_at_call 17; refine (c4 _).mono ?_; rintro e w4 ⟨u, rfl, hu, hb4⟩
  have hv4 := reads_below hv3 hb4
  have hu4 := reads_own hu
  clear hv3 hu
  go_wp2_with fail
  go_at_call 18; refine (hn _).mono ?_; rintro e w5 ⟨rfl, hb5⟩
  have hv5 := reads_below hv4 hb5
  have hu5 := reads_below hu4 hb5
  have HS : Hid (Reads w5 v ns ∧ Reads w5 u ns) := ⟨hv5, hu5⟩
  clear hv4 hu4 hv5 hu5
  go_wp2_with fail
  go_at_call 19; refine (same_true v u ns _ HS.out.1 HS.out.2).mono ?_; rintro e w6 ⟨rfl, hb6⟩
  go_wp2
  go_ret
  exact ⟨rfl, below2 (below2 (below2 (below2 (below2 hb1 hb2) hb3) hb4) hb5) hb6⟩

theorem walk (a0 : Option Addr) (len0 cap0 : Nat) (z0 : List Int) (a1 : ByteArray) (w : World) (b0 : IsRow .u64 w a0 len0 cap0 z0) (b1 : a1.size ≤ 140737488351232) :
    Calls Try.prog 5 #[.slice a0 len0 cap0, .string a1] w fun e w' => e = .returned (.bool true) ∧ Below w.heap.size w w' := by
  obtain ⟨l, rfl, hl⟩ := str_list a1
  obtain ⟨hlz, hzc, hcm, _⟩ := isRow_len b0
  have hm : len0 ≤ 9223372036854775807 := by unfold maxLen at hcm; omega
  by_cases h : len0 ≤ 4096
  · exact core a0 len0 cap0 l w _ _ hm (row_any a0 len0 cap0 z0 w b0 h) (fun w' hb => rrow_any a0 len0 cap0 z0 w' (isRow_below b0 hb) h) (by omega)
  · exact core a0 len0 cap0 l w _ _ hm (row_long a0 len0 cap0 w (by omega) hm) (fun w' _ => rrow_long a0 len0 cap0 w' (by omega) hm) (by omega)

set_option maxRecDepth 100000 in
theorem lifted (os : Os) (started : os.Started) (H : Type) (enc : TypeId × Value → H) :
    ReturnsInHanded {} Try.checked os 5 .any (Rows.numRowsSpec.pre6 enc Try.prog Try.f5 Rows.numRowsRow.domain false) (Rows.numRowsSpec.post enc Try.prog Try.f5 false true false false) := by
  refine returnsInHanded_of_change_sized (C := Try.checked) own started (by kernel_rfl) Try.func5
    (ChangeSpec.witness6 (enc := enc) (C := Try.checked) false ⟨#[], #[.slice none 0 0, .string ByteArray.empty], []⟩ 8 (by kernel_rfl) (by kernel_rfl) (by kernel_rfl) (by kernel_rfl)) ?_
  intro W base args ds gs before hval0 hW _ hsz0 _
  have hsz : (DataW.weightsEach Try.prog (Try.f5.params.toList ++ Rows.numRowsSpec.plain.varTypes Try.prog) (ds ++ gs)).all (· ≤ reachBytes) = true := hsz0
  clear hsz0
  have hval : ∀ (j : Nat) t v, Try.f5.params[j]? = some t → args[j]? = some v → Value.okWide Try.prog W .any base t v := hval0
  have hW' := hW
  obtain ⟨p, q, hA0, hV, rfl, hfz, hnd⟩ := hW
  have hA : DataW.TrodAll enc Try.prog W 0 (fun _ => true) true Try.f5.params.toList args.toList ds p := hA0
  rw [Try.params5] at hA hval hsz
  obtain ⟨v0, vs0, d0, ds0, p0, q0, hargs, rfl, rfl, h0, r0⟩ := trodAll_cons hA
  obtain ⟨v1, vs1, d1, ds1, p1, q1, rfl, rfl, rfl, h1, r1⟩ := trodAll_cons r0
  obtain ⟨rfl, rfl, rfl⟩ := trodAll_nil r1
  obtain rfl : args = #[v0, v1] := by cases args; simp_all
  obtain ⟨rfl, rfl⟩ := trodVars_none hV
  obtain ⟨a0, len0, cap0, rfl⟩ := okWide_slice Try.underlying30 (hval 0 30 v0 rfl rfl)
  have k0 := h0
  have lt0 : ∀ x ∈ p0, x.block < W.heap.size := by obtain ⟨m, hm⟩ := k0; exact DataW.trod_lt m _ _ _ hm
  obtain ⟨z0, b0⟩ : ∃ zs, IsRow .u64 W a0 len0 cap0 zs := by
    obtain ⟨fuel, hf⟩ := h0
    rcases open_ints Try.underlying30 Try.underlying22 (by kernel_rfl) hf with ⟨hcs, _⟩ | ⟨x, l, c, zs, hcs, _, hl, hm, hz, _, hcell, hwz⟩
    · simp [Value.cells] at hcs
      obtain ⟨rfl, rfl, rfl⟩ := hcs
      exact ⟨[], .inl ⟨rfl, rfl, rfl, rfl⟩⟩
    · simp [Value.cells] at hcs
      obtain ⟨rfl, rfl, rfl⟩ := hcs
      exact ⟨zs, .inr ⟨_, rfl, hl, hm, by simpa using hz, hcell, hwz⟩⟩
  obtain ⟨a1, rfl, rfl, rfl, w1⟩ := open_string Try.underlying9 (hval 1 9 v1 rfl rfl) h1
  have b1 : a1.size ≤ 140737488351232 := by
    have := sized_string hsz (j := 1) (t := 9) rfl rfl
    simpa [reachBytes] using this
  clear hA0 hval0
  refine (walk a0 len0 cap0 z0 a1 W b0 b1).mono fun e W' ⟨he, bel⟩ => ?_
  subst he
  exact ⟨_, rfl, _, _, _, [], _, [], hW', trodAll_mk1 (shut_bool Try.underlying4 _), (trodAll_cons_mk (Below.trod laidOut (by kernel_rfl) (of_decide_eq_true (by kernel_rfl)) k0 bel lt0) (trodAll_cons_mk (shut_string Try.underlying9 w1) trodAll_mk0)), rfl, bel.frame _, fun h => by cases h⟩

theorem over : Rows.numRowsRow.holds Try.pinned (OpenSpec.ofChange Rows.numRowsSpec) :=
  OpenClaim.holds_of_wide 5 Try.f5 rfl rfl rfl rfl rfl rfl rfl ⟨rfl, rfl, rfl, rfl, rfl⟩ rfl rfl rfl rfl rfl (by kernel_rfl) Try.func5 (by kernel_rfl)
    (of_decide_eq_true (by kernel_rfl)) (by unfold Func.isWrapper; first | (rw [if_pos (by decide +kernel)]; kernel_rfl) | (rw [if_neg (by decide +kernel)]; exact ⟨rfl, rfl⟩))
    (fun os started H enc _ => lifted os started H enc)
end numRows
theorem rows_holds : Rows.NumRowsSaid := numRows.over
#print axioms rows_holds
end Go.Proofs.Ytmbciomfkiadiaa
