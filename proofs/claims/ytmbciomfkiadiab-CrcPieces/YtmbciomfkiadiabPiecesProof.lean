/- For every three texts: spoorlaw02.CrcPieces returns true, and changes nothing that was there. No condition. -/
import Derived.Test.YtmbciomfkiadiabRows
import Derived.Test.YtmbciomfkiadiabMathSeal
import Derived.Test.YtmbciomfkiadiabMathJoin
import Derived.Test.YtmbciomfkiadiabWalkLives
import Derived.ProofKit
import Derived.OpenShut
import Derived.ShutString
import Derived.SizedLaws
set_option linter.unusedVariables false
namespace Go.Proofs.Ytmbciomfkiadiab
namespace crcPieces
open Go.ChangeShapes Go.WideShapes Go.ChangeAt Go.RowKit
open Go.ChangeMaps (open_string shut_string)
open Go.Proofs.Ytmbciomfkiadiab.Crc

theorem own : ownKnob Try.prog.godebug = none := by kernel_rfl
theorem laidOut : laidOutB Try.prog = true := by kernel_rfl

set_option maxHeartbeats 1000000 in
theorem big (A B C X Y Z e1 e2 e3 : Int) (SA SB SC : ByteArray) (w : World) (hB : SB.size ≤ 140737488351232) (hC : SC.size ≤ 140737488351232)
    (h : 1000000 < SB.size ∨ SB.size ≤ 1000000 ∧ 1000000 < SC.size)
    (oa : ∀ w, Calls Try.prog 10 #[.string SA] w fun e w' => e = .returned (.int .u32 A) ∧ w' = w)
    (ob : ∀ w, Calls Try.prog 10 #[.string SB] w fun e w' => e = .returned (.int .u32 B) ∧ w' = w)
    (oc : ∀ w, Calls Try.prog 10 #[.string SC] w fun e w' => e = .returned (.int .u32 C) ∧ w' = w)
    (j1 : ∀ w, Calls Try.prog 16 #[.int .u32 A, .int .u32 B, .int .i64 (SB.size : Int)] w fun e w' => e = .returned (.tuple #[.int .u32 X, .int .i64 e1]) ∧ w' = w)
    (j2 : ∀ w, Calls Try.prog 16 #[.int .u32 X, .int .u32 C, .int .i64 (SC.size : Int)] w fun e w' => e = .returned (.tuple #[.int .u32 Y, .int .i64 e2]) ∧ w' = w)
    (j3 : ∀ w, Calls Try.prog 16 #[.int .u32 B, .int .u32 C, .int .i64 (SC.size : Int)] w fun e w' => e = .returned (.tuple #[.int .u32 Z, .int .i64 e3]) ∧ w' = w) :
    Calls Try.prog 6 #[.string SA, .string SB, .string SC] w fun e w' => e = .returned (.bool true) ∧ Below w.heap.size w w' := by
  have hl : ∀ w, Calls Try.prog 9 #[] w fun e w' => e = .returned (.bool true) ∧ Below w.heap.size w w' := lives_any
  rcases h with h | ⟨h, h'⟩
  all_goals
    go_enter Try.func6, Try.ntmps6
    go_wp2_with fail
    go_at_call 9; refine (hl _).mono ?_; rintro e w1 ⟨rfl, hW⟩
    go_wp2_with fail
    go_at_call 10; refine (oa _).mono ?_; rintro e w' ⟨rfl, rfl⟩
    go_wp2_with fail
    go_at_call 10; refine (ob _).mono ?_; rintro e w' ⟨rfl, rfl⟩
    go_wp2_with fail
    go_at_call 16; refine (j1 _).mono ?_; rintro e w' ⟨rfl, rfl⟩
    go_wp2_with fail
    go_at_call 10; refine (oc _).mono ?_; rintro e w' ⟨rfl, rfl⟩
    go_wp2_with fail
    go_at_call 16; refine (j2 _).mono ?_; rintro e w' ⟨rfl, rfl⟩
    go_wp2_with fail
    go_at_call 10; refine (ob _).mono ?_; rintro e w' ⟨rfl, rfl⟩
    go_wp2_with fail
    go_at_call 10; refine (oc _).mono ?_; rintro e w' ⟨rfl, rfl⟩
    go_wp2_with fail
    go_at_call 16; refine (j3 _).mono ?_; rintro e w' ⟨rfl, rfl⟩
    go_wp2_with fail
    go_ret
    exact ⟨rfl, hW⟩
set_option maxHeartbeats 1000000 in
theorem small (A B C X Z G AB : Int) (SA SB SC : ByteArray) (w : World) (hA : SA.size ≤ 140737488351232) (hB : SB.size ≤ 1000000) (hC : SC.size ≤ 1000000)
    (oa : ∀ w, Calls Try.prog 10 #[.string SA] w fun e w' => e = .returned (.int .u32 A) ∧ w' = w)
    (ob : ∀ w, Calls Try.prog 10 #[.string SB] w fun e w' => e = .returned (.int .u32 B) ∧ w' = w)
    (oc : ∀ w, Calls Try.prog 10 #[.string SC] w fun e w' => e = .returned (.int .u32 C) ∧ w' = w)
    (j1 : ∀ w, Calls Try.prog 16 #[.int .u32 A, .int .u32 B, .int .i64 (SB.size : Int)] w fun e w' => e = .returned (.tuple #[.int .u32 X, .int .i64 0]) ∧ w' = w)
    (j2 : ∀ w, Calls Try.prog 16 #[.int .u32 X, .int .u32 C, .int .i64 (SC.size : Int)] w fun e w' => e = .returned (.tuple #[.int .u32 G, .int .i64 0]) ∧ w' = w)
    (j3 : ∀ w, Calls Try.prog 16 #[.int .u32 B, .int .u32 C, .int .i64 (SC.size : Int)] w fun e w' => e = .returned (.tuple #[.int .u32 Z, .int .i64 0]) ∧ w' = w)
    (j4 : ∀ w, Calls Try.prog 16 #[.int .u32 A, .int .u32 Z, .int .i64 ((SB.size : Int) + (SC.size : Int))] w fun e w' => e = .returned (.tuple #[.int .u32 G, .int .i64 0]) ∧ w' = w)
    (og : ∀ w, Calls Try.prog 10 #[.string (SA ++ SB ++ SC)] w fun e w' => e = .returned (.int .u32 G) ∧ w' = w)
    (n1 : ∀ w, Calls Try.prog 12 #[.int .u32 A, .string SB] w fun e w' => e = .returned (.int .u32 AB) ∧ w' = w)
    (n2 : ∀ w, Calls Try.prog 12 #[.int .u32 AB, .string SC] w fun e w' => e = .returned (.int .u32 G) ∧ w' = w) :
    Calls Try.prog 6 #[.string SA, .string SB, .string SC] w fun e w' => e = .returned (.bool true) ∧ Below w.heap.size w w' := by
  have hl : ∀ w, Calls Try.prog 9 #[] w fun e w' => e = .returned (.bool true) ∧ Below w.heap.size w w' := lives_any
  have hAB : (SA ++ SB).size ≤ 140737489351232 := by rw [ByteArray.size_append]; omega
  go_enter Try.func6, Try.ntmps6
  go_wp2_with fail
  go_at_call 9; refine (hl _).mono ?_; rintro e w1 ⟨rfl, hW⟩
  go_wp2_with fail
  go_at_call 10; refine (oa _).mono ?_; rintro e w' ⟨rfl, rfl⟩
  go_wp2_with fail
  go_at_call 10; refine (ob _).mono ?_; rintro e w' ⟨rfl, rfl⟩
  go_wp2_with fail
  go_at_call 16; refine (j1 _).mono ?_; rintro e w' ⟨rfl, rfl⟩
  go_wp2_with fail
  go_at_call 10; refine (oc _).mono ?_; rintro e w' ⟨rfl, rfl⟩
  go_wp2_with fail
  go_at_call 16; refine (j2 _).mono ?_; rintro e w' ⟨rfl, rfl⟩
  go_wp2_with fail
  go_at_call 10; refine (ob _).mono ?_; rintro e w' ⟨rfl, rfl⟩
  go_wp2_with fail
  go_at_call 10; refine (oc _).mono ?_; rintro e w' ⟨rfl, rfl⟩
  go_wp2_with fail
  go_at_call 16; refine (j3 _).mono ?_; rintro e w' ⟨rfl, rfl⟩
  go_wp2_with fail
  go_at_call 10; refine (oa _).mono ?_; rintro e w' ⟨rfl, rfl⟩
  go_wp2_with fail
  go_at_call 16; refine (j4 _).mono ?_; rintro e w' ⟨rfl, rfl⟩
  go_wp2_with fail
  go_at_call 10; refine (og _).mono ?_; rintro e w' ⟨rfl, rfl⟩
  go_wp2_with fail
  go_at_call 10; refine (oa _).mono ?_; rintro e w' ⟨rfl, rfl⟩
  go_wp2_with fail
  go_at_call 12; refine (n1 _).mono ?_; rintro e w' ⟨rfl, rfl⟩
  go_wp2_with fail
  go_at_call 12; refine (n2 _).mono ?_; rintro e w' ⟨rfl, rfl⟩
  go_wp2_with fail
  go_ret
  exact ⟨rfl, hW⟩
theorem onLst (n : Nat) (l : List UInt8) (hn : n < 4294967296) (hl : l.length ≤ 9223372036854775807) (w : World) :
    Calls Try.prog 12 #[.int .u32 (n : Int), .string ⟨l.toArray⟩] w fun e w' => e = .returned (.int .u32 (onL n l : Int)) ∧ w' = w := by
  have := on_any n ⟨l.toArray⟩ w hn (by rw [size_list]; exact hl)
  simpa using this
theorem walk (a0 a1 a2 : ByteArray) (w : World) (b0 : a0.size ≤ 140737488351232) (b1 : a1.size ≤ 140737488351232) (b2 : a2.size ≤ 140737488351232) :
    Calls Try.prog 6 #[.string a0, .string a1, .string a2] w fun e w' => e = .returned (.bool true) ∧ Below w.heap.size w w' := by
  obtain ⟨l0, rfl, h0⟩ := str_list a0
  obtain ⟨l1, rfl, h1⟩ := str_list a1
  obtain ⟨l2, rfl, h2⟩ := str_list a2
  have oa := fun w => ofL l0 w (by omega)
  have ob := fun w => ofL l1 w (by omega)
  have oc := fun w => ofL l2 w (by omega)
  have s1 : ((⟨l1.toArray⟩ : ByteArray).size : Int) = (l1.length : Int) := by rw [size_list]
  have s2 : ((⟨l2.toArray⟩ : ByteArray).size : Int) = (l2.length : Int) := by rw [size_list]
  by_cases h : l1.length ≤ 1000000 ∧ l2.length ≤ 1000000
  · obtain ⟨hb, hc⟩ := h
    have j1 := fun w => join_any (onL 0 l0) (onL 0 l1) l1.length w (sum_lt _) (sum_lt _) (by omega)
    have j2 := fun w => join_any (onL 0 (l0 ++ l1)) (onL 0 l2) l2.length w (sum_lt _) (sum_lt _) (by omega)
    have j3 := fun w => join_any (onL 0 l1) (onL 0 l2) l2.length w (sum_lt _) (sum_lt _) (by omega)
    have j4 := fun w => join_any (onL 0 l0) (onL 0 (l1 ++ l2)) (l1 ++ l2).length w (sum_lt _) (sum_lt _) (by rw [List.length_append]; omega)
    have og := fun w => ofL (l0 ++ l1 ++ l2) w (by rw [List.length_append, List.length_append]; omega)
    have n1 := fun w => onLst (onL 0 l0) l1 (sum_lt _) (by omega) w
    have n2 := fun w => onLst (onL 0 (l0 ++ l1)) l2 (sum_lt _) (by omega) w
    rw [join_app] at j1 j2 j3 j4
    rw [on_app] at n1 n2
    rw [List.append_assoc] at j2 n2 og
    have e1 : (⟨l0.toArray⟩ ++ ⟨l1.toArray⟩ ++ ⟨l2.toArray⟩ : ByteArray) = ⟨(l0 ++ (l1 ++ l2)).toArray⟩ := by rw [str_app, str_app, List.append_assoc]
    rw [← e1] at og
    rw [List.length_append, Int.natCast_add, ← s1, ← s2] at j4
    rw [← s1] at j1
    rw [← s2] at j2 j3
    exact small _ _ _ _ _ _ _ _ _ _ w b0 (by omega) (by omega) oa ob oc j1 j2 j3 j4 og n1 n2
  · have j1 := fun w => join_gen (onL 0 l0) (onL 0 l1) l1.length w (sum_lt _) (sum_lt _) (by omega)
    have j2 := fun w => join_gen (joinV (onL 0 l0) (onL 0 l1) l1.length).1 (onL 0 l2) l2.length w (joinV_lt _ _ _ (sum_lt _) (sum_lt _)) (sum_lt _) (by omega)
    have j3 := fun w => join_gen (onL 0 l1) (onL 0 l2) l2.length w (sum_lt _) (sum_lt _) (by omega)
    generalize hJ : joinV (onL 0 l0) (onL 0 l1) l1.length = J1 at j1 j2
    generalize joinV J1.1 (onL 0 l2) l2.length = J2 at j2
    generalize joinV (onL 0 l1) (onL 0 l2) l2.length = J3 at j3
    rw [← s1] at j1
    rw [← s2] at j2 j3
    exact big _ _ _ _ _ _ _ _ _ _ _ _ w b1 b2 (by omega) oa ob oc j1 j2 j3

set_option maxRecDepth 100000 in
theorem lifted (os : Os) (started : os.Started) (H : Type) (enc : TypeId × Value → H) :
    ReturnsInHanded {} Try.checked os 6 .any (Rows.crcPiecesSpec.pre6 enc Try.prog Try.f6 Rows.crcPiecesRow.domain false) (Rows.crcPiecesSpec.post enc Try.prog Try.f6 false true false false) := by
  refine returnsInHanded_of_change_sized (C := Try.checked) own started (by kernel_rfl) Try.func6
    (ChangeSpec.witness6 (enc := enc) (C := Try.checked) false ⟨#[], #[.string ByteArray.empty, .string ByteArray.empty, .string ByteArray.empty], []⟩ 8 (by kernel_rfl) (by kernel_rfl) (by kernel_rfl) (by kernel_rfl)) ?_
  intro W base args ds gs before hval0 hW _ hsz0 _
  have hsz : (DataW.weightsEach Try.prog (Try.f6.params.toList ++ Rows.crcPiecesSpec.plain.varTypes Try.prog) (ds ++ gs)).all (· ≤ reachBytes) = true := hsz0
  clear hsz0
  have hval : ∀ (j : Nat) t v, Try.f6.params[j]? = some t → args[j]? = some v → Value.okWide Try.prog W .any base t v := hval0
  have hW' := hW
  obtain ⟨p, q, hA0, hV, rfl, hfz, hnd⟩ := hW
  have hA : DataW.TrodAll enc Try.prog W 0 (fun _ => true) true Try.f6.params.toList args.toList ds p := hA0
  rw [Try.params6] at hA hval hsz
  obtain ⟨v0, vs0, d0, ds0, p0, q0, hargs, rfl, rfl, h0, r0⟩ := trodAll_cons hA
  obtain ⟨v1, vs1, d1, ds1, p1, q1, rfl, rfl, rfl, h1, r1⟩ := trodAll_cons r0
  obtain ⟨v2, vs2, d2, ds2, p2, q2, rfl, rfl, rfl, h2, r2⟩ := trodAll_cons r1
  obtain ⟨rfl, rfl, rfl⟩ := trodAll_nil r2
  obtain rfl : args = #[v0, v1, v2] := by cases args; simp_all
  obtain ⟨rfl, rfl⟩ := trodVars_none hV
  obtain ⟨a0, rfl, rfl, rfl, w0⟩ := open_string Try.underlying9 (hval 0 9 v0 rfl rfl) h0
  have b0 : a0.size ≤ 140737488351232 := by
    have := sized_string hsz (j := 0) (t := 9) rfl rfl
    simpa [reachBytes] using this
  obtain ⟨a1, rfl, rfl, rfl, w1⟩ := open_string Try.underlying9 (hval 1 9 v1 rfl rfl) h1
  have b1 : a1.size ≤ 140737488351232 := by
    have := sized_string hsz (j := 1) (t := 9) rfl rfl
    simpa [reachBytes] using this
  obtain ⟨a2, rfl, rfl, rfl, w2⟩ := open_string Try.underlying9 (hval 2 9 v2 rfl rfl) h2
  have b2 : a2.size ≤ 140737488351232 := by
    have := sized_string hsz (j := 2) (t := 9) rfl rfl
    simpa [reachBytes] using this
  clear hA0 hval0
  refine (walk a0 a1 a2 W b0 b1 b2).mono fun e W' ⟨he, bel⟩ => ?_
  subst he
  exact ⟨_, rfl, _, _, _, [], _, [], hW', trodAll_mk1 (shut_bool Try.underlying4 _), (trodAll_cons_mk (shut_string Try.underlying9 w0) (trodAll_cons_mk (shut_string Try.underlying9 w1) (trodAll_cons_mk (shut_string Try.underlying9 w2) trodAll_mk0))), rfl, bel.frame _, fun h => by cases h⟩

theorem over : Rows.crcPiecesRow.holds Try.pinned (OpenSpec.ofChange Rows.crcPiecesSpec) :=
  OpenClaim.holds_of_wide 6 Try.f6 rfl rfl rfl rfl rfl rfl rfl ⟨rfl, rfl, rfl, rfl, rfl⟩ rfl rfl rfl rfl rfl (by kernel_rfl) Try.func6 (by kernel_rfl)
    (of_decide_eq_true (by kernel_rfl)) (by unfold Func.isWrapper; first | (rw [if_pos (by decide +kernel)]; kernel_rfl) | (rw [if_neg (by decide +kernel)]; exact ⟨rfl, rfl⟩))
    (fun os started H enc _ => lifted os started H enc)
end crcPieces
theorem pieces_holds : Rows.CrcPiecesSaid := crcPieces.over
#print axioms pieces_holds
end Go.Proofs.Ytmbciomfkiadiab
