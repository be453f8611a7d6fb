/- For every manifest, elder sector and place: spoorlaw06.ManifestTorn returns true, and changes nothing that was there. No condition. -/
import Derived.Test.YtphfkpjnfnnalaaRows
import Derived.Test.YtphfkpjnfnnalaaManLives
import Derived.Test.YtphfkpjnfnnalaaManMath
import Derived.Test.YtphfkpjnfnnalaaManOpen
import Derived.Test.YtphfkpjnfnnalaaQuietBelow
import Derived.ProofKit
import Derived.OpenShut
import Derived.ShutString
import Derived.SizedLaws
set_option linter.unusedVariables false
namespace Go.Proofs.Ytphfkpjnfnnalaa
namespace manifestTorn
open Go.ChangeShapes Go.WideShapes Go.ChangeAt Go.RowKit
open Go.ChangeMaps (open_string shut_string)
open Go.Proofs.Ytphfkpjnfnnalaa.Page
open Go.Proofs.Ytphfkpjnfnnalaa.Man

theorem own : ownKnob Try.prog.godebug = none := by kernel_rfl
theorem laidOut : laidOutB Try.prog = true := by kernel_rfl
set_option maxHeartbeats 2000000 in
theorem out_y (e : Nat) (uo : Option Addr) (n uc : Nat) (y at' : Int) (O S : ByteArray) (w : World) (hy : y ≠ 0)
    (c1 : ∀ W, Below w.heap.size w W → Calls Try.prog 9 #[.agg #[.int .u64 (e : Int), .slice uo n uc]] W fun e w' => e = .returned (.tuple #[.string S, .int .i64 y]) ∧ Below W.heap.size W w') :
    Calls Try.prog 6 #[.agg #[.int .u64 (e : Int), .slice uo n uc], .string O, .int .i64 at'] w fun e w' => e = .returned (.bool true) ∧ Below w.heap.size w w' := by
  have hy2 : (y == 0) = false := by simpa using hy
  have hy3 : (y != 0) = true := by simpa using hy
  obtain ⟨X, hX⟩ : ∃ X, X = w.alloc (.cells #[.int .u64 (e : Int), .slice uo n uc] 25) := ⟨_, rfl⟩
  have hB0 : Below w.heap.size w X := by rw [hX]; exact (Below.refl _ w).alloc (Nat.le_refl _) _
  have mb : MBox X w.heap.size e (.slice uo n uc) := by rw [hX]; exact RowAt.new w [_, _] _
  go_enter Try.func6, Try.ntmps6
  go_upto_region 1 with fail
  rw [← hX]
  clear hX
  go_wp2_with fail
  go_at_call 13; refine (Man.lives_any _).mono ?_; rintro e w1 ⟨rfl, hb1⟩
  have hW := below2 hB0 hb1
  obtain ⟨m0, m1⟩ := MBox.cells (RowAt.below mb hb1)
  clear mb hB0 hb1
  go_wp2_with fail
  go_at_call 9; refine (c1 _ hW).mono ?_; rintro e w2 ⟨rfl, hb2⟩
  have hW := below2 hW hb2
  clear m0 m1 c1 hb2
  go_wp2_with fail
  go_region
  all_goals go_wp2
  all_goals go_ret
  all_goals exact ⟨rfl, hW.drew⟩
set_option maxHeartbeats 2000000 in
theorem out_len (e : Nat) (uo : Option Addr) (n uc : Nat) (at' : Int) (O S : ByteArray) (w : World) (ho : O.size ≠ 128) (hO : O.size ≤ 140737488351232)
    (c1 : ∀ W, Below w.heap.size w W → Calls Try.prog 9 #[.agg #[.int .u64 (e : Int), .slice uo n uc]] W fun e w' => e = .returned (.tuple #[.string S, .int .i64 0]) ∧ Below W.heap.size W w') :
    Calls Try.prog 6 #[.agg #[.int .u64 (e : Int), .slice uo n uc], .string O, .int .i64 at'] w fun e w' => e = .returned (.bool true) ∧ Below w.heap.size w w' := by
  have ho2 : ((O.size : Int) == 128) = false := by rw [beq_eq_false_iff_ne]; omega
  have ho3 : ((O.size : Int) != 128) = true := by rw [bne_iff_ne]; omega
  have ho4 : ¬ ((O.size : Int) = 128) := by omega
  obtain ⟨X, hX⟩ : ∃ X, X = w.alloc (.cells #[.int .u64 (e : Int), .slice uo n uc] 25) := ⟨_, rfl⟩
  have hB0 : Below w.heap.size w X := by rw [hX]; exact (Below.refl _ w).alloc (Nat.le_refl _) _
  have mb : MBox X w.heap.size e (.slice uo n uc) := by rw [hX]; exact RowAt.new w [_, _] _
  go_enter Try.func6, Try.ntmps6
  go_upto_region 1 with fail
  rw [← hX]
  clear hX
  go_wp2_with fail
  go_at_call 13; refine (Man.lives_any _).mono ?_; rintro e w1 ⟨rfl, hb1⟩
  have hW := below2 hB0 hb1
  obtain ⟨m0, m1⟩ := MBox.cells (RowAt.below mb hb1)
  clear mb hB0 hb1
  go_wp2_with fail
  go_at_call 9; refine (c1 _ hW).mono ?_; rintro e w2 ⟨rfl, hb2⟩
  have hW := below2 hW hb2
  clear m0 m1 c1 hb2
  go_wp2_with fail
  go_region
  all_goals go_wp2
  all_goals go_ret
  all_goals exact ⟨rfl, hW.drew⟩
set_option maxHeartbeats 2000000 in
theorem out_lo (e : Nat) (uo : Option Addr) (n uc : Nat) (at' : Int) (O S : ByteArray) (w : World) (ho : O.size = 128) (ha : at' < 0)
    (c1 : ∀ W, Below w.heap.size w W → Calls Try.prog 9 #[.agg #[.int .u64 (e : Int), .slice uo n uc]] W fun e w' => e = .returned (.tuple #[.string S, .int .i64 0]) ∧ Below W.heap.size W w') :
    Calls Try.prog 6 #[.agg #[.int .u64 (e : Int), .slice uo n uc], .string O, .int .i64 at'] w fun e w' => e = .returned (.bool true) ∧ Below w.heap.size w w' := by
  have h1 : decide (at' < 0) = true := by simpa using ha
  obtain ⟨X, hX⟩ : ∃ X, X = w.alloc (.cells #[.int .u64 (e : Int), .slice uo n uc] 25) := ⟨_, rfl⟩
  have hB0 : Below w.heap.size w X := by rw [hX]; exact (Below.refl _ w).alloc (Nat.le_refl _) _
  have mb : MBox X w.heap.size e (.slice uo n uc) := by rw [hX]; exact RowAt.new w [_, _] _
  go_enter Try.func6, Try.ntmps6
  go_upto_region 1 with fail
  rw [← hX]
  clear hX
  go_wp2_with fail
  go_at_call 13; refine (Man.lives_any _).mono ?_; rintro e w1 ⟨rfl, hb1⟩
  have hW := below2 hB0 hb1
  obtain ⟨m0, m1⟩ := MBox.cells (RowAt.below mb hb1)
  clear mb hB0 hb1
  go_wp2_with fail
  go_at_call 9; refine (c1 _ hW).mono ?_; rintro e w2 ⟨rfl, hb2⟩
  have hW := below2 hW hb2
  clear m0 m1 c1 hb2
  go_wp2_with fail
  go_region
  all_goals go_wp2
  all_goals go_ret
  all_goals exact ⟨rfl, hW.drew⟩
set_option maxHeartbeats 2000000 in
theorem out_hi (e : Nat) (uo : Option Addr) (n uc : Nat) (at' : Int) (O S : ByteArray) (w : World) (ho : O.size = 128) (ha : 128 < at')
    (c1 : ∀ W, Below w.heap.size w W → Calls Try.prog 9 #[.agg #[.int .u64 (e : Int), .slice uo n uc]] W fun e w' => e = .returned (.tuple #[.string S, .int .i64 0]) ∧ Below W.heap.size W w') :
    Calls Try.prog 6 #[.agg #[.int .u64 (e : Int), .slice uo n uc], .string O, .int .i64 at'] w fun e w' => e = .returned (.bool true) ∧ Below w.heap.size w w' := by
  have h1 : decide (at' < 0) = false := by rw [decide_eq_false_iff_not]; omega
  have h2 : decide (128 < at') = true := by simpa using ha
  obtain ⟨X, hX⟩ : ∃ X, X = w.alloc (.cells #[.int .u64 (e : Int), .slice uo n uc] 25) := ⟨_, rfl⟩
  have hB0 : Below w.heap.size w X := by rw [hX]; exact (Below.refl _ w).alloc (Nat.le_refl _) _
  have mb : MBox X w.heap.size e (.slice uo n uc) := by rw [hX]; exact RowAt.new w [_, _] _
  go_enter Try.func6, Try.ntmps6
  go_upto_region 1 with fail
  rw [← hX]
  clear hX
  go_wp2_with fail
  go_at_call 13; refine (Man.lives_any _).mono ?_; rintro e w1 ⟨rfl, hb1⟩
  have hW := below2 hB0 hb1
  obtain ⟨m0, m1⟩ := MBox.cells (RowAt.below mb hb1)
  clear mb hB0 hb1
  go_wp2_with fail
  go_at_call 9; refine (c1 _ hW).mono ?_; rintro e w2 ⟨rfl, hb2⟩
  have hW := below2 hW hb2
  clear m0 m1 c1 hb2
  go_wp2_with fail
  go_region
  all_goals go_wp2
  all_goals go_ret
  all_goals exact ⟨rfl, hW.drew⟩
set_option maxHeartbeats 2000000 in
theorem out_same (e : Nat) (uo : Option Addr) (n uc : Nat) (k : Nat) (O S E : ByteArray) (w : World) (hS : S.size = 128) (ho : O.size = 128) (hk : k ≤ 128) (hE : O.extract 120 128 = E) (hF : S.extract 120 128 = E)
    (c1 : ∀ W, Below w.heap.size w W → Calls Try.prog 9 #[.agg #[.int .u64 (e : Int), .slice uo n uc]] W fun e w' => e = .returned (.tuple #[.string S, .int .i64 0]) ∧ Below W.heap.size W w') :
    Calls Try.prog 6 #[.agg #[.int .u64 (e : Int), .slice uo n uc], .string O, .int .i64 (k : Int)] w fun e w' => e = .returned (.bool true) ∧ Below w.heap.size w w' := by
  have d1 : decide ((k : Int) < 0) = false := by rw [decide_eq_false_iff_not]; omega
  have d2 : decide (128 < (k : Int)) = false := by rw [decide_eq_false_iff_not]; omega
  have hk2 : (k : Int) ≤ 128 := by omega
  have hk0 : (0 : Int) ≤ (k : Int) := by omega
  obtain ⟨X, hX⟩ : ∃ X, X = w.alloc (.cells #[.int .u64 (e : Int), .slice uo n uc] 25) := ⟨_, rfl⟩
  have hB0 : Below w.heap.size w X := by rw [hX]; exact (Below.refl _ w).alloc (Nat.le_refl _) _
  have mb : MBox X w.heap.size e (.slice uo n uc) := by rw [hX]; exact RowAt.new w [_, _] _
  go_enter Try.func6, Try.ntmps6
  go_upto_region 1 with fail
  rw [← hX]
  clear hX
  go_wp2_with fail
  go_at_call 13; refine (Man.lives_any _).mono ?_; rintro e w1 ⟨rfl, hb1⟩
  have hW := below2 hB0 hb1
  obtain ⟨m0, m1⟩ := MBox.cells (RowAt.below mb hb1)
  clear mb hB0 hb1
  go_wp2_with fail
  go_at_call 9; refine (c1 _ hW).mono ?_; rintro e w2 ⟨rfl, hb2⟩
  have hW := below2 hW hb2
  clear m0 m1 c1 hb2
  go_wp2_with fail
  go_quiet (fail)
  go_wp2
  go_ret
  exact ⟨rfl, below_drewN hW _⟩
set_option maxHeartbeats 2000000 in
theorem main_way (e : Nat) (uo : Option Addr) (n uc : Nat) (k : Nat) (y : Int) (ge : Nat) (gv : List PartT) (O S E F G X : ByteArray) (w : World) (hS : S.size = 128) (ho : O.size = 128) (hk : k ≤ 128) (hE : O.extract 120 128 = E) (hF : S.extract 120 128 = F) (hG : O.extract 0 8 = G) (hEF : E ≠ F)
    (hX : S.extract 0 k ++ O.extract k 128 = X) (hy : y ≠ 0 ∨ X = S ∨ X = O ∨ G ≠ E)
    (c2 : ∀ W, Calls Try.prog 11 #[.string X] W fun e w' => ∃ go gc, e = .returned (.tuple #[.agg #[.int .u64 (ge : Int), .slice go gv.length gc], .int .i64 y]) ∧ Below W.heap.size W w')
    (c1 : ∀ W, Below w.heap.size w W → Calls Try.prog 9 #[.agg #[.int .u64 (e : Int), .slice uo n uc]] W fun e w' => e = .returned (.tuple #[.string S, .int .i64 0]) ∧ Below W.heap.size W w') :
    Calls Try.prog 6 #[.agg #[.int .u64 (e : Int), .slice uo n uc], .string O, .int .i64 (k : Int)] w fun e w' => e = .returned (.bool true) ∧ Below w.heap.size w w' := by
  have d1 : decide ((k : Int) < 0) = false := by rw [decide_eq_false_iff_not]; omega
  have d2 : decide (128 < (k : Int)) = false := by rw [decide_eq_false_iff_not]; omega
  have hk2 : (k : Int) ≤ 128 := by omega
  have hk0 : (0 : Int) ≤ (k : Int) := by omega
  have hz1 : (S.extract 0 k).size ≤ 128 := by rw [ByteArray.size_extract]; omega
  have hz2 : (O.extract k 128).size ≤ 128 := by rw [ByteArray.size_extract]; omega
  have n1 : ¬ 9223372036854775807 < (S.extract 0 k).size + (O.extract k 128).size := by omega
  have hEF2 := ne_of hEF
  have hp : (y != 0) = true ∨ y = 0 ∧ (X.toList == S.toList) = true ∨ (y = 0 ∧ (X.toList == S.toList) = false) ∧ (X.toList == O.toList) = true ∨ (y = 0 ∧ (X.toList == S.toList) = false) ∧ (X.toList == O.toList) = false ∧ (G.toList == E.toList) = false := by
    by_cases h0 : y = 0
    · by_cases h1 : X = S
      · exact .inr (.inl ⟨h0, beq_iff_eq.2 (by rw [h1])⟩)
      · by_cases h2 : X = O
        · exact .inr (.inr (.inl ⟨⟨h0, ne_of h1⟩, beq_iff_eq.2 (by rw [h2])⟩))
        · rcases hy with hc | hc | hc | hc
          · exact absurd h0 hc
          · exact absurd hc h1
          · exact absurd hc h2
          · exact .inr (.inr (.inr ⟨⟨h0, ne_of h1⟩, ne_of h2, ne_of hc⟩))
    · exact .inl (by simpa using h0)
  clear hEF hy
  obtain ⟨X, hX⟩ : ∃ X, X = w.alloc (.cells #[.int .u64 (e : Int), .slice uo n uc] 25) := ⟨_, rfl⟩
  have hB0 : Below w.heap.size w X := by rw [hX]; exact (Below.refl _ w).alloc (Nat.le_refl _) _
  have mb : MBox X w.heap.size e (.slice uo n uc) := by rw [hX]; exact RowAt.new w [_, _] _
  go_enter Try.func6, Try.ntmps6
  go_upto_region 1 with fail
  rw [← hX]
  clear hX
  go_wp2_with fail
  go_at_call 13; refine (Man.lives_any _).mono ?_; rintro e w1 ⟨rfl, hb1⟩
  have hW := below2 hB0 hb1
  obtain ⟨m0, m1⟩ := MBox.cells (RowAt.below mb hb1)
  clear mb hB0 hb1
  go_wp2_with fail
  go_at_call 9; refine (c1 _ hW).mono ?_; rintro e w2 ⟨rfl, hb2⟩
  have hW := below2 hW hb2
  clear m0 m1 c1 hb2
  go_wp2_with fail
  go_quiet (fail)

  go_wp2_with fail
  go_quiet (fail)
  go_wp2_with fail
  go_at_call 11; refine (c2 _).mono ?_; rintro e w4 ⟨go', gc, rfl, hb4⟩
  have hW := below2 (below_drewN hW _) hb4
  clear c2 hb4 hX
  rcases hp with hp | ⟨rfl, hp⟩ | ⟨⟨rfl, hp1⟩, hp⟩ | ⟨⟨rfl, hp1⟩, hp2, hp⟩
  all_goals go_wp2_with fail
  all_goals go_quiet (fail)
  all_goals go_wp2
  all_goals go_ret
  all_goals refine ⟨congrArg (fun b => Ending.returned (.bool b)) (?_ : _ = true), ?_⟩
  all_goals first
    | (with_reducible exact below_drewN (hW.alloc hW.size _) _)
    | (with_reducible exact below_drewN hW _)
    | rfl
    | exact hp
    | simp_all
theorem walk (u0 : Value) (M0 : ManT) (a1 : ByteArray) (a2 : Int) (w : World) (b0 : HasParts w u0 M0.2) (f0 : FitM M0) (b1 : a1.size ≤ 140737488351232) (b2 : -9223372036854775808 ≤ a2 ∧ a2 ≤ 9223372036854775807) :
    Calls Try.prog 6 #[.agg #[.int .u64 (M0.1 : Int), u0], .string a1, .int .i64 a2] w fun e w' => e = .returned (.bool true) ∧ Below w.heap.size w w' := by
  obtain ⟨o, rfl, hol⟩ := str_list a1
  have c1 := fun W (hb : Below w.heap.size w W) => mput_any M0 u0 W (b0.keep hb) f0
  unfold StrIs at c1
  obtain ⟨uo, uc, rfl, _, _⟩ := b0.form
  cases hok : okM M0
  · have hp : putM M0 = ([], 2) := by rw [putM, hok]; rfl
    rw [hp] at c1
    exact out_y M0.1 uo _ uc 2 a2 _ _ w (by decide) c1
  · have hp : putM M0 = (sectL M0, 0) := by rw [putM, if_pos hok]
    rw [hp] at c1
    simp only at c1
    have hn8 := (okM_parts hok).2.1
    have hsl := sectL_len M0 hn8
    by_cases h128 : o.length = 128
    · by_cases hlo : a2 < 0
      · exact out_lo M0.1 uo _ uc a2 _ _ w (by rw [size_list]; exact h128) hlo c1
      · by_cases hhi : 128 < a2
        · exact out_hi M0.1 uo _ uc a2 _ _ w (by rw [size_list]; exact h128) hhi c1
        · obtain ⟨k, rfl⟩ := Int.eq_ofNat_of_zero_le (show 0 ≤ a2 by omega)
          have hk : k ≤ 128 := by omega
          have hx : (⟨o.toArray⟩ : ByteArray).extract 120 128 = ⟨(o.drop 120).toArray⟩ := by
            have := extract_drop ⟨o.toArray⟩ 120
            rw [size_list, h128] at this
            exact this
          have hz : (⟨(sectL M0).toArray⟩ : ByteArray).extract 120 128 = ⟨((sectL M0).drop 120).toArray⟩ := by
            have := extract_drop ⟨(sectL M0).toArray⟩ 120
            rw [size_list, hsl] at this
            exact this
          by_cases hE : o.drop 120 = (sectL M0).drop 120
          · exact out_same M0.1 uo _ uc k _ _ _ w (by rw [size_list]; exact hsl) (by rw [size_list]; exact h128) hk (by rw [hx, hE]) hz c1
          · have hX : (⟨(sectL M0).toArray⟩ : ByteArray).extract 0 k ++ (⟨o.toArray⟩ : ByteArray).extract k 128 = ⟨((sectL M0).take k ++ o.drop k).toArray⟩ := by
              have h1 := extract_take ⟨(sectL M0).toArray⟩ k
              have h2 := extract_drop ⟨o.toArray⟩ k
              rw [size_list, h128] at h2
              rw [h1, h2, str_app]
            have hlen : ((sectL M0).take k ++ o.drop k).length ≤ 9223372036854775807 := by
              rw [List.length_append, List.length_take, List.length_drop]; omega
            refine main_way M0.1 uo _ uc k (getM ((sectL M0).take k ++ o.drop k)).2 (getM ((sectL M0).take k ++ o.drop k)).1.1 (getM ((sectL M0).take k ++ o.drop k)).1.2 _ _ _ _ _ _ w (by rw [size_list]; exact hsl) (by rw [size_list]; exact h128) hk hx hz (extract_take ⟨o.toArray⟩ 8) (fun hc => hE (arr_inj hc)) hX ?_ (fun W => (get_core _ W hlen).mono ?_) c1
            · by_cases h0 : (getM ((sectL M0).take k ++ o.drop k)).2 = 0
              · rcases torn_m hsl h128 hk ((sect_take M0).trans (sect_drop M0 hn8).symm) hE h0 with h | h | h
                · exact .inr (.inl (by rw [h]))
                · exact .inr (.inr (.inl (by rw [h])))
                · exact .inr (.inr (.inr (fun hc => h (arr_inj hc))))
              · exact .inl h0
            · rintro e w' ⟨v, rfl, hpp, hb⟩
              obtain ⟨go', gc, rfl, _, _⟩ := hpp.form
              exact ⟨go', gc, rfl, hb⟩
    · exact out_len M0.1 uo _ uc a2 _ _ w (by rw [size_list]; exact h128) (by rw [size_list]; omega) c1

set_option maxRecDepth 100000 in
theorem lifted (os : Os) (started : os.Started) (H : Type) (enc : TypeId × Value → H) :
    ReturnsInHanded {} Try.checked os 6 .any (Rows.manifestTornSpec.pre6 enc Try.prog Try.f6 Rows.manifestTornRow.domain false) (Rows.manifestTornSpec.post enc Try.prog Try.f6 false true false false) := by
  refine returnsInHanded_of_change_sized (C := Try.checked) own started (by kernel_rfl) Try.func6
    (ChangeSpec.witness6 (enc := enc) (C := Try.checked) false ⟨#[], #[.agg #[.int .u64 0, .slice none 0 0], .string ByteArray.empty, .int .i64 0], []⟩ 8 (by kernel_rfl) (by kernel_rfl) (by kernel_rfl) (by kernel_rfl)) ?_
  intro W base args ds gs before hval0 hW _ hsz0 _
  have hsz : (DataW.weightsEach Try.prog (Try.f6.params.toList ++ Rows.manifestTornSpec.plain.varTypes Try.prog) (ds ++ gs)).all (· ≤ reachBytes) = true := hsz0
  clear hsz0
  have hval : ∀ (j : Nat) t v, Try.f6.params[j]? = some t → args[j]? = some v → Value.okWide Try.prog W .any base t v := hval0
  have hW' := hW
  obtain ⟨p, q, hA0, hV, rfl, hfz, hnd⟩ := hW
  have hA : DataW.TrodAll enc Try.prog W 0 (fun _ => true) true Try.f6.params.toList args.toList ds p := hA0
  rw [Try.params6] at hA hval hsz
  obtain ⟨v0, vs0, d0, ds0, p0, q0, hargs, rfl, rfl, h0, r0⟩ := trodAll_cons hA
  obtain ⟨v1, vs1, d1, ds1, p1, q1, rfl, rfl, rfl, h1, r1⟩ := trodAll_cons r0
  obtain ⟨v2, vs2, d2, ds2, p2, q2, rfl, rfl, rfl, h2, r2⟩ := trodAll_cons r1
  obtain ⟨rfl, rfl, rfl⟩ := trodAll_nil r2
  obtain rfl : args = #[v0, v1, v2] := by cases args; simp_all
  obtain ⟨rfl, rfl⟩ := trodVars_none hV
  have k0 := h0
  have lt0 : ∀ x ∈ p0, x.block < W.heap.size := by obtain ⟨m, hm⟩ := k0; exact DataW.trod_lt m _ _ _ hm
  obtain ⟨M0, u0, rfl, b0, f0⟩ := Man.open_manifest (hval 0 25 v0 rfl rfl) h0
  obtain ⟨a1, rfl, rfl, rfl, w1⟩ := open_string Try.underlying9 (hval 1 9 v1 rfl rfl) h1
  have b1 : a1.size ≤ 140737488351232 := by
    have := sized_string hsz (j := 1) (t := 9) rfl rfl
    simpa [reachBytes] using this
  obtain ⟨a2, rfl, rfl, rfl, w2⟩ := open_int Try.underlying3 (hval 2 3 v2 rfl rfl) h2
  have b2 : -9223372036854775808 ≤ a2 ∧ a2 ≤ 9223372036854775807 := by simpa [Lit.wf, IntKind.min, IntKind.max, IntKind.signed, IntKind.bits] using w2
  clear hA0 hval0
  refine (walk u0 M0 a1 a2 W b0 f0 b1 b2).mono fun e W' ⟨he, bel⟩ => ?_
  subst he
  exact ⟨_, rfl, _, _, _, [], _, [], hW', trodAll_mk1 (shut_bool Try.underlying4 _), (trodAll_cons_mk (Below.trod laidOut (by kernel_rfl) (of_decide_eq_true (by kernel_rfl)) k0 bel lt0) (trodAll_cons_mk (shut_string Try.underlying9 w1) (trodAll_cons_mk (shut_int Try.underlying3 w2) trodAll_mk0))), rfl, bel.frame _, fun h => by cases h⟩

theorem over : Rows.manifestTornRow.holds Try.pinned (OpenSpec.ofChange Rows.manifestTornSpec) :=
  OpenClaim.holds_of_wide 6 Try.f6 rfl rfl rfl rfl rfl rfl rfl ⟨rfl, rfl, rfl, rfl, rfl⟩ rfl rfl rfl rfl rfl (by kernel_rfl) Try.func6 (by kernel_rfl)
    (of_decide_eq_true (by kernel_rfl)) (by unfold Func.isWrapper; first | (rw [if_pos (by decide +kernel)]; kernel_rfl) | (rw [if_neg (by decide +kernel)]; exact ⟨rfl, rfl⟩))
    (fun os started H enc _ => lifted os started H enc)
end manifestTorn
theorem mtorn_holds : Rows.ManifestTornSaid := manifestTorn.over
#print axioms mtorn_holds
end Go.Proofs.Ytphfkpjnfnnalaa
