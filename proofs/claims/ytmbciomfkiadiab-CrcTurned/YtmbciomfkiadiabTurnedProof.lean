/- For every text, every place and every byte: spoorlaw02.CrcTurned returns true, and changes nothing that was there. No condition. -/
import Derived.Test.YtmbciomfkiadiabRows
import Derived.Test.YtmbciomfkiadiabMathSeal
import Derived.Test.YtmbciomfkiadiabMathJoin
import Derived.Test.YtmbciomfkiadiabWalkLives
import Derived.ProofKit
import Derived.OpenShut
import Derived.ShutString
import Derived.SizedLaws
set_option linter.unusedVariables false
namespace Go.Proofs.Ytmbciomfkiadiab
namespace crcTurned
open Go.ChangeShapes Go.WideShapes Go.ChangeAt Go.RowKit
open Go.ChangeMaps (open_string shut_string)
open Go.Proofs.Ytmbciomfkiadiab.Crc

theorem own : ownKnob Try.prog.godebug = none := by kernel_rfl
theorem laidOut : laidOutB Try.prog = true := by kernel_rfl

set_option maxHeartbeats 1000000 in
theorem skip (S : ByteArray) (a b : Int) (w : World) (hS : S.size ≤ 140737488351232) (ha : -9223372036854775808 ≤ a ∧ a ≤ 9223372036854775807)
    (h : a < 0 ∨ (0 ≤ a ∧ (S.size : Int) ≤ a) ∨ (0 ≤ a ∧ a < (S.size : Int) ∧ b = 0) ∨ (0 ≤ a ∧ a < (S.size : Int) ∧ (b == 0) = false ∧ 10000 < S.size)) :
    Calls Try.prog 7 #[.string S, .int .i64 a, .int .u8 b] w fun e w' => e = .returned (.bool true) ∧ Below w.heap.size w w' := by
  have hl : ∀ w, Calls Try.prog 9 #[] w fun e w' => e = .returned (.bool true) ∧ Below w.heap.size w w' := lives_any
  obtain ⟨ha0, ha1⟩ := ha
  rcases h with h | ⟨h, h'⟩ | ⟨h, h', rfl⟩ | ⟨h, h', h'', h3⟩
  all_goals
    go_enter Try.func7, Try.ntmps7
    go_wp2_with fail
    go_at_call 9; refine (hl _).mono ?_; rintro e w1 ⟨rfl, hW⟩
    go_wp2_with fail
    go_ret
    exact ⟨rfl, hW⟩

set_option maxHeartbeats 2000000 in
set_option maxRecDepth 20000 in
theorem core (l : List UInt8) (i : Nat) (b x c : Int) (X Y : Int) (S T U : ByteArray) (w : World) (hi : i < l.length) (hl4 : l.length ≤ 10000) (hU : U.size ≤ 4) (hTs : T.size ≤ 10000) (hS : S = ⟨l.toArray⟩)
    (hx : x = (l[i].toNat : Int)) (hc : bits BinOp.xor IntKind.u8 x b = c) (hT : T = ⟨(l.set i (UInt8.ofNat c.toNat)).toArray⟩) (hc0 : 0 ≤ c) (hc1 : c ≤ 255)
    (hb : (b == 0) = false) (hxy : (Y != X) = true)
    (o1 : ∀ w, Calls Try.prog 10 #[.string S] w fun e w' => e = .returned (.int .u32 X) ∧ w' = w)
    (t1 : ∀ w, Calls Try.prog 24 #[.int .u32 X] w fun e w' => e = .returned (.string U) ∧ Below w.heap.size w w')
    (p1 : ∀ w, Calls Try.prog 22 #[.string (T ++ U)] w fun e w' => e = .returned (.tuple #[.string ⟨#[]⟩, .int .i64 6]) ∧ Below w.heap.size w w')
    (o2 : ∀ w, Calls Try.prog 10 #[.string T] w fun e w' => e = .returned (.int .u32 Y) ∧ w' = w) :
    Calls Try.prog 7 #[.string S, .int .i64 (i : Int), .int .u8 b] w fun e w' => e = .returned (.bool true) ∧ Below w.heap.size w w' := by
  have hlv : ∀ w, Calls Try.prog 9 #[] w fun e w' => e = .returned (.bool true) ∧ Below w.heap.size w w' := lives_any
  have hSs : S.size = l.length := by rw [hS, size_list]
  have hSl : S.size ≤ 10000 := by omega
  have hiS : (i : Int) < (S.size : Int) := by omega
  have HS : Hid (S = ⟨l.toArray⟩ ∧ S.size = l.length) := ⟨hS, hSs⟩
  have HT : Hid (T = ⟨(l.set i (UInt8.ofNat c.toNat)).toArray⟩) := hT
  have HX : Hid (x = (l[i].toNat : Int)) := hx
  have HI : Hid (i < l.length ∧ l.length ≤ 10000) := ⟨hi, hl4⟩
  clear hS hT hx hSs hl4
  go_enter Try.func7, Try.ntmps7
  go_wp2_with fail
  go_at_call 9; refine (hlv _).mono ?_; rintro e w1 ⟨rfl, hW⟩
  obtain ⟨W, cap, hcv, hcell, hfz, hbW⟩ := conv_bytes l w1
  rw [← HS.out.1] at hcv
  have k1 : W.cell? ⟨w1.heap.size, i, none⟩ = some (.int .u8 x) := by rw [HX.out]; exact hcell i hi
  have k2 : W.frozen? ⟨w1.heap.size, i, none⟩ = false := hfz i hi
  have k3 : (convert 38 9 (.slice (some ⟨w1.heap.size, 0, none⟩) S.size cap)).run Try.prog (W.setCell ⟨w1.heap.size, i, none⟩ (.int .u8 c)) = .ok (.string T) (W.setCell ⟨w1.heap.size, i, none⟩ (.int .u8 c)) := by
    have h0 := run_convert_bytes_back (P := Try.prog) (W.setCell ⟨w1.heap.size, i, none⟩ (.int .u8 c)) 38 9 5 ⟨w1.heap.size, 0, none⟩ cap (l.set i (UInt8.ofNat c.toNat)) Try.underlying38 Try.underlying5 Try.underlying9 (fun j hj => by
      rw [addr_add, Nat.zero_add]
      rw [List.length_set] at hj
      by_cases hij : i = j
      · subst hij
        rw [World.cell?_setCell_same _ _ _ k1]
        simp
        omega
      · rw [World.cell?_setCell_other _ _ _ _ (by simp), hcell j hj]
        simp [hij])
    rw [List.length_set, ← HS.out.2] at h0
    rw [HT.out]
    exact h0
  have hW2 : Below w.heap.size w (W.setCell ⟨w1.heap.size, i, none⟩ (.int .u8 c)) := (below2 hW hbW).setCell (p := ⟨w1.heap.size, i, none⟩) (by have := hW.size; exact this) _
  clear hcell hfz
  go_wp2_with fail
  go_at_call 10; refine (o1 _).mono ?_; rintro e w' ⟨rfl, rfl⟩
  go_wp2_with fail
  go_at_call 24; refine (t1 _).mono ?_; rintro e w2 ⟨rfl, hb2⟩
  go_wp2_with fail
  go_at_call 22; refine (p1 _).mono ?_; rintro e w3 ⟨rfl, hb3⟩
  go_wp2_with fail
  go_at_call 10; refine (o2 _).mono ?_; rintro e w' ⟨rfl, rfl⟩
  go_wp2_with fail
  go_at_call 10; refine (o1 _).mono ?_; rintro e w' ⟨rfl, rfl⟩
  go_wp2_with fail
  go_ret
  exact ⟨ret_bool (by simp), below2 (below2 hW2 hb2) hb3⟩

theorem walk (a0 : ByteArray) (a1 a2 : Int) (w : World) (b0 : a0.size ≤ 140737488351232) (b1 : -9223372036854775808 ≤ a1 ∧ a1 ≤ 9223372036854775807) (b2 : 0 ≤ a2 ∧ a2 ≤ 255) :
    Calls Try.prog 7 #[.string a0, .int .i64 a1, .int .u8 a2] w fun e w' => e = .returned (.bool true) ∧ Below w.heap.size w w' := by
  by_cases h1 : a1 < 0
  · exact skip a0 a1 a2 w b0 b1 (.inl h1)
  by_cases h2 : (a0.size : Int) ≤ a1
  · exact skip a0 a1 a2 w b0 b1 (.inr (.inl ⟨by omega, h2⟩))
  by_cases h3 : a2 = 0
  · exact skip a0 a1 a2 w b0 b1 (.inr (.inr (.inl ⟨by omega, by omega, h3⟩)))
  have hb : (a2 == 0) = false := by simpa using h3
  by_cases h4 : 10000 < a0.size
  · exact skip a0 a1 a2 w b0 b1 (.inr (.inr (.inr ⟨by omega, by omega, hb, h4⟩)))
  obtain ⟨l, rfl, hl⟩ := str_list a0
  obtain ⟨i, rfl⟩ := Int.eq_ofNat_of_zero_le (by omega : 0 ≤ a1)
  obtain ⟨b, rfl⟩ := Int.eq_ofNat_of_zero_le b2.1
  have hi : i < l.length := by omega
  have hxl := (l[i]).toNat_lt
  have hX := xor_u8 (l[i]).toNat b (by omega) (by omega)
  have hcl : (l[i]).toNat ^^^ b < 256 := Nat.xor_lt_two_pow (n := 8) (by omega) (by omega)
  generalize hc : (l[i]).toNat ^^^ b = c at hX hcl
  have hne : UInt8.ofNat c ≠ l[i] := by
    intro h
    have h5 := congrArg UInt8.toNat h
    have h6 : (UInt8.ofNat c).toNat = c := by simp; omega
    rw [h6, ← hc] at h5
    have h7 := congrArg ((l[i]).toNat ^^^ ·) h5
    have h8 : b = 0 := by simpa [← Nat.xor_assoc] using h7
    exact h3 (by rw [h8]; rfl)
  obtain ⟨e1, e2⟩ := set_parts l i hi (UInt8.ofNat c)
  have hsum : onL 0 (l.set i (UInt8.ofNat c)) ≠ onL 0 l := by
    intro h
    rw [e2] at h
    conv at h => rhs; rw [e1]
    exact hne (sum_turned _ _ _ _ h)
  have hlen : (l.set i (UInt8.ofNat c)).length = l.length := List.length_set
  have p1 : ∀ w, Calls Try.prog 22 #[.string (⟨(l.set i (UInt8.ofNat c)).toArray⟩ ++ ⟨(textR (onL 0 l)).toArray⟩)] w fun e w' => e = .returned (.tuple #[.string ⟨#[]⟩, .int .i64 6]) ∧ Below w.heap.size w w' := fun w => by
    have := open_any (l.set i (UInt8.ofNat c) ++ textR (onL 0 l)) w (by rw [List.length_append, hlen, textR_len]; omega)
    rw [open_app _ _ rfl, if_neg (fun h => hsum (text_inj _ _ (sum_lt _) (sum_lt _) h).symm)] at this
    rw [str_app]
    exact this
  exact core l i b _ (c : Int) (onL 0 l : Int) (onL 0 (l.set i (UInt8.ofNat c)) : Int) _ _ _ w hi (by omega) (by rw [size_list]; exact Nat.le_refl _) (by rw [size_list, hlen]; omega) rfl rfl hX (by simp) (by omega) (by omega) hb
    (by simp; omega) (fun w => ofL l w (by omega)) (fun w => text_any _ w (sum_lt _)) p1 (fun w => ofL _ w (by omega))

set_option maxRecDepth 100000 in
theorem lifted (os : Os) (started : os.Started) (H : Type) (enc : TypeId × Value → H) :
    ReturnsInHanded {} Try.checked os 7 .any (Rows.crcTurnedSpec.pre6 enc Try.prog Try.f7 Rows.crcTurnedRow.domain false) (Rows.crcTurnedSpec.post enc Try.prog Try.f7 false true false false) := by
  refine returnsInHanded_of_change_sized (C := Try.checked) own started (by kernel_rfl) Try.func7
    (ChangeSpec.witness6 (enc := enc) (C := Try.checked) false ⟨#[], #[.string ByteArray.empty, .int .i64 0, .int .u8 0], []⟩ 8 (by kernel_rfl) (by kernel_rfl) (by kernel_rfl) (by kernel_rfl)) ?_
  intro W base args ds gs before hval0 hW _ hsz0 _
  have hsz : (DataW.weightsEach Try.prog (Try.f7.params.toList ++ Rows.crcTurnedSpec.plain.varTypes Try.prog) (ds ++ gs)).all (· ≤ reachBytes) = true := hsz0
  clear hsz0
  have hval : ∀ (j : Nat) t v, Try.f7.params[j]? = some t → args[j]? = some v → Value.okWide Try.prog W .any base t v := hval0
  have hW' := hW
  obtain ⟨p, q, hA0, hV, rfl, hfz, hnd⟩ := hW
  have hA : DataW.TrodAll enc Try.prog W 0 (fun _ => true) true Try.f7.params.toList args.toList ds p := hA0
  rw [Try.params7] at hA hval hsz
  obtain ⟨v0, vs0, d0, ds0, p0, q0, hargs, rfl, rfl, h0, r0⟩ := trodAll_cons hA
  obtain ⟨v1, vs1, d1, ds1, p1, q1, rfl, rfl, rfl, h1, r1⟩ := trodAll_cons r0
  obtain ⟨v2, vs2, d2, ds2, p2, q2, rfl, rfl, rfl, h2, r2⟩ := trodAll_cons r1
  obtain ⟨rfl, rfl, rfl⟩ := trodAll_nil r2
  obtain rfl : args = #[v0, v1, v2] := by cases args; simp_all
  obtain ⟨rfl, rfl⟩ := trodVars_none hV
  obtain ⟨a0, rfl, rfl, rfl, w0⟩ := open_string Try.underlying9 (hval 0 9 v0 rfl rfl) h0
  have b0 : a0.size ≤ 140737488351232 := by
    have := sized_string hsz (j := 0) (t := 9) rfl rfl
    simpa [reachBytes] using this
  obtain ⟨a1, rfl, rfl, rfl, w1⟩ := open_int Try.underlying3 (hval 1 3 v1 rfl rfl) h1
  have b1 : -9223372036854775808 ≤ a1 ∧ a1 ≤ 9223372036854775807 := by simpa [Lit.wf, IntKind.min, IntKind.max, IntKind.signed, IntKind.bits] using w1
  obtain ⟨a2, rfl, rfl, rfl, w2⟩ := open_int Try.underlying5 (hval 2 5 v2 rfl rfl) h2
  have b2 : 0 ≤ a2 ∧ a2 ≤ 255 := by simpa [Lit.wf, IntKind.min, IntKind.max, IntKind.signed, IntKind.bits] using w2
  clear hA0 hval0
  refine (walk a0 a1 a2 W b0 b1 b2).mono fun e W' ⟨he, bel⟩ => ?_
  subst he
  exact ⟨_, rfl, _, _, _, [], _, [], hW', trodAll_mk1 (shut_bool Try.underlying4 _), (trodAll_cons_mk (shut_string Try.underlying9 w0) (trodAll_cons_mk (shut_int Try.underlying3 w1) (trodAll_cons_mk (shut_int Try.underlying5 w2) trodAll_mk0))), rfl, bel.frame _, fun h => by cases h⟩

theorem over : Rows.crcTurnedRow.holds Try.pinned (OpenSpec.ofChange Rows.crcTurnedSpec) :=
  OpenClaim.holds_of_wide 7 Try.f7 rfl rfl rfl rfl rfl rfl rfl ⟨rfl, rfl, rfl, rfl, rfl⟩ rfl rfl rfl rfl rfl (by kernel_rfl) Try.func7 (by kernel_rfl)
    (of_decide_eq_true (by kernel_rfl)) (by unfold Func.isWrapper; first | (rw [if_pos (by decide +kernel)]; kernel_rfl) | (rw [if_neg (by decide +kernel)]; exact ⟨rfl, rfl⟩))
    (fun os started H enc _ => lifted os started H enc)
end crcTurned
theorem turned_holds : Rows.CrcTurnedSaid := crcTurned.over
#print axioms turned_holds
end Go.Proofs.Ytmbciomfkiadiab
