/- For every payload, every place, every byte and whatever is behind: spoorlaw04.FrameTurned returns true, and changes nothing that was there. No condition. -/
import Derived.Test.YtojgmiobjfkebaaRows
import Derived.Test.YtojgmiobjfkebaaWalkLive4
import Derived.Test.YtojgmiobjfkebaaMathSeal
import Derived.ProofKit
import Derived.OpenShut
import Derived.ShutString
import Derived.SizedLaws
set_option linter.unusedVariables false
namespace Go.Proofs.Ytojgmiobjfkebaa
namespace frameTurned
open Go.ChangeShapes Go.WideShapes Go.ChangeAt Go.RowKit
open Go.ChangeMaps (open_string shut_string)
open Go.Proofs.Ytojgmiobjfkebaa.Frame

theorem own : ownKnob Try.prog.godebug = none := by kernel_rfl
theorem laidOut : laidOutB Try.prog = true := by kernel_rfl

theorem next_turned (p more : List UInt8) (i : Nat) (c : UInt8) (hp : p.length ≤ 4096) (h0 : (putL p.length).length ≤ i) (hi : i < (frameL p).length) (hne : c ≠ (frameL p)[i]) :
    nextL ((frameL p).set i c ++ more) = ([], [], 6) := by
  obtain ⟨j, rfl⟩ : ∃ j, i = (putL p.length).length + j := ⟨i - (putL p.length).length, by omega⟩
  have hs := sumL_len p
  have hset : (frameL p).set ((putL p.length).length + j) c = putL p.length ++ (sumL p ++ p).set j c := by
    rw [frameL, List.set_append_right _ _ (by omega)]
    simp
  have hg : getGo 0 0 ((frameL p).set ((putL p.length).length + j) c ++ more) = (p.length, (sumL p ++ p).set j c ++ more, 0) := by
    have := getGo_put ((sumL p ++ p).set j c ++ more) p.length 0 0 (by omega) (.inl rfl) (by omega)
    rw [hset, List.append_assoc, this]
    simp
  have hj : j < (sumL p ++ p).length := by rw [frameL, List.length_append] at hi; omega
  have hat : c ≠ (sumL p ++ p)[j] := by
    intro h; apply hne; rw [h]
    simp [frameL]
  have hlen : ((sumL p ++ p).set j c).length = 4 + p.length := by rw [List.length_set, List.length_append, hs]
  refine nextL_sum hg hp (by rw [List.length_append, hlen]; omega) ?_
  by_cases h4 : j < 4
  · have e : (sumL p ++ p).set j c = (sumL p).set j c ++ p := List.set_append_left _ _ (by omega)
    have hl4 : ((sumL p).set j c).length = 4 := by rw [List.length_set, hs]
    rw [e, List.append_assoc]
    have t1 : ((sumL p).set j c ++ (p ++ more)).take 4 = (sumL p).set j c := by rw [← hl4, List.take_left]
    have t2 : ((sumL p).set j c ++ (p ++ more)).drop 4 = p ++ more := by rw [← hl4, List.drop_left]
    rw [t1, t2, List.take_left]
    intro h
    have h5 : ((sumL p).set j c)[j]'(by omega) = (sumL p)[j]'(by omega) := by simp only [h]
    rw [List.getElem_set_self] at h5
    apply hat
    rw [h5, List.getElem_append_left (by omega)]
  · obtain ⟨k, rfl⟩ : ∃ k, j = 4 + k := ⟨j - 4, by omega⟩
    have hk : k < p.length := by rw [List.length_append] at hj; omega
    have e : (sumL p ++ p).set (4 + k) c = sumL p ++ p.set k c := by
      rw [List.set_append_right _ _ (by omega), hs]
      simp
    rw [e, List.append_assoc]
    have t1 : (sumL p ++ (p.set k c ++ more)).take 4 = sumL p := by rw [← hs, List.take_left]
    have t2 : (sumL p ++ (p.set k c ++ more)).drop 4 = p.set k c ++ more := by rw [← hs, List.drop_left]
    have hpl : (p.set k c).length = p.length := List.length_set
    rw [t1, t2, ← hpl, List.take_left]
    intro h
    have h6 := Crc.text_inj _ _ (sum_lt _) (sum_lt _) h
    obtain ⟨e1, e2⟩ := Crc.set_parts p k hk c
    rw [e2] at h6
    conv at h6 => lhs; rw [e1]
    have h7 := Crc.sum_turned _ _ _ _ h6
    apply hat
    rw [← h7, List.getElem_append_right (by omega)]
    simp [hs]

set_option maxHeartbeats 1000000 in
theorem skip (S A M : ByteArray) (e1 a b : Int) (w : World) (hS : S.size ≤ 140737488351232) (hA : A.size ≤ 5000) (ha : -9223372036854775808 ≤ a ∧ a ≤ 9223372036854775807)
    (c1 : ∀ w, Calls Try.prog 8 #[.string S] w fun e w' => e = .returned (.tuple #[.string A, .int .i64 e1]) ∧ Below w.heap.size w w')
    (h : (e1 != 0) = true ∨ (e1 = 0 ∧ b = 0) ∨ (e1 = 0 ∧ (b == 0) = false ∧ S.size ≤ 4096 ∧ a < (A.size : Int) - (S.size : Int) - 4) ∨ (e1 = 0 ∧ (b == 0) = false ∧ S.size ≤ 4096 ∧ (A.size : Int) - (S.size : Int) - 4 ≤ a ∧ (A.size : Int) ≤ a)) :
    Calls Try.prog 7 #[.string S, .int .i64 a, .int .u8 b, .string M] w fun e w' => e = .returned (.bool true) ∧ Below w.heap.size w w' := by
  have hl : ∀ w, Calls Try.prog 12 #[] w fun e w' => e = .returned (.bool true) ∧ Below w.heap.size w w' := lives_any
  obtain ⟨ha0, ha1⟩ := ha
  rcases h with h | ⟨rfl, rfl⟩ | ⟨rfl, h, h', h''⟩ | ⟨rfl, h, h', h'', h3⟩
  all_goals
    go_enter Try.func7, Try.ntmps7
    go_wp2_with fail
    go_at_call 12; refine (hl _).mono ?_; rintro e w1 ⟨rfl, hW⟩
    go_wp2_with fail
    go_at_call 8; refine (c1 _).mono ?_; rintro e w2 ⟨rfl, hb⟩
    have hW := below2 hW hb
    go_wp2_with fail
    go_ret
    exact ⟨rfl, hW⟩

set_option maxHeartbeats 2000000 in
set_option maxRecDepth 20000 in
theorem core (l : List UInt8) (i : Nat) (b x c : Int) (S A T M : ByteArray) (w : World) (hi : i < l.length) (hS : S.size ≤ 4096) (hM : M.size ≤ 140737488351232) (hl4 : l.length ≤ 5000) (hTs : T.size ≤ 5000) (hA : A = ⟨l.toArray⟩)
    (hx : x = (l[i].toNat : Int)) (hc : bits BinOp.xor IntKind.u8 x b = c) (hT : T = ⟨(l.set i (UInt8.ofNat c.toNat)).toArray⟩) (hc0 : 0 ≤ c) (hc1 : c ≤ 255)
    (hb : (b == 0) = false) (hge : (A.size : Int) - (S.size : Int) - 4 ≤ (i : Int))
    (o1 : ∀ w, Calls Try.prog 8 #[.string S] w fun e w' => e = .returned (.tuple #[.string A, .int .i64 0]) ∧ Below w.heap.size w w')
    (p1 : ∀ w, Calls Try.prog 13 #[.string (T ++ M)] w fun e w' => e = .returned (.tuple #[.string ⟨#[]⟩, .string ⟨#[]⟩, .int .i64 6]) ∧ Below w.heap.size w w')
    (p2 : ∀ w, Calls Try.prog 15 #[.string (T ++ M)] w fun e w' => (∃ o cap, e = .returned (.tuple #[.slice o 0 cap, .int .i64 0])) ∧ Below w.heap.size w w') :
    Calls Try.prog 7 #[.string S, .int .i64 (i : Int), .int .u8 b, .string M] w fun e w' => e = .returned (.bool true) ∧ Below w.heap.size w w' := by
  have hlv : ∀ w, Calls Try.prog 12 #[] w fun e w' => e = .returned (.bool true) ∧ Below w.heap.size w w' := lives_any
  have hSs : A.size = l.length := by rw [hA, size_list]
  have hSl : A.size ≤ 5000 := by omega
  have hiS : (i : Int) < (A.size : Int) := by omega
  have HS : Hid (A = ⟨l.toArray⟩ ∧ A.size = l.length) := ⟨hA, hSs⟩
  have HT : Hid (T = ⟨(l.set i (UInt8.ofNat c.toNat)).toArray⟩) := hT
  have HX : Hid (x = (l[i].toNat : Int)) := hx
  have HI : Hid (i < l.length ∧ l.length ≤ 5000) := ⟨hi, hl4⟩
  clear hA hT hx hSs hl4
  go_enter Try.func7, Try.ntmps7
  go_wp2_with fail
  go_at_call 12; refine (hlv _).mono ?_; rintro e w0 ⟨rfl, hW⟩
  go_wp2_with fail
  go_at_call 8; refine (o1 _).mono ?_; rintro e w1 ⟨rfl, hb1⟩
  have hW := below2 hW hb1
  obtain ⟨W, cap, hcv, hcell, hfz, hbW⟩ := Crc.conv_bytes l w1
  rw [← HS.out.1] at hcv
  have k1 : W.cell? ⟨w1.heap.size, i, none⟩ = some (.int .u8 x) := by rw [HX.out]; exact hcell i hi
  have k2 : W.frozen? ⟨w1.heap.size, i, none⟩ = false := hfz i hi
  have k3 : (convert 41 9 (.slice (some ⟨w1.heap.size, 0, none⟩) A.size cap)).run Try.prog (W.setCell ⟨w1.heap.size, i, none⟩ (.int .u8 c)) = .ok (.string T) (W.setCell ⟨w1.heap.size, i, none⟩ (.int .u8 c)) := by
    have h0 := run_convert_bytes_back (P := Try.prog) (W.setCell ⟨w1.heap.size, i, none⟩ (.int .u8 c)) 41 9 5 ⟨w1.heap.size, 0, none⟩ cap (l.set i (UInt8.ofNat c.toNat)) Try.underlying41 Try.underlying5 Try.underlying9 (fun j hj => by
      rw [addr_add, Nat.zero_add]
      rw [List.length_set] at hj
      by_cases hij : i = j
      · subst hij
        rw [World.cell?_setCell_same _ _ _ k1]
        simp
        omega
      · rw [World.cell?_setCell_other _ _ _ _ (by simp), hcell j hj]
        simp [hij])
    rw [List.length_set, ← HS.out.2] at h0
    rw [HT.out]
    exact h0
  have k4 : ∀ w2, Below (W.setCell ⟨w1.heap.size, i, none⟩ (.int .u8 c)).heap.size (W.setCell ⟨w1.heap.size, i, none⟩ (.int .u8 c)) w2 → (convert 41 9 (.slice (some ⟨w1.heap.size, 0, none⟩) A.size cap)).run Try.prog w2 = .ok (.string T) w2 := by
    intro w2 hb2
    have h0 := run_convert_bytes_back (P := Try.prog) w2 41 9 5 ⟨w1.heap.size, 0, none⟩ cap (l.set i (UInt8.ofNat c.toNat)) Try.underlying41 Try.underlying5 Try.underlying9 (fun j hj => by
      rw [addr_add, Nat.zero_add]
      rw [List.length_set] at hj
      have hlt : w1.heap.size < (W.setCell ⟨w1.heap.size, i, none⟩ (.int .u8 c)).heap.size := by
        have h9 : w1.heap.size < W.heap.size := by
          have := k1
          unfold World.cell? at this
          cases hx : W.heap[w1.heap.size]? with
          | none => simp [hx] at this
          | some o => exact (Array.getElem?_eq_some_iff.1 hx).1
        exact Nat.lt_of_lt_of_le h9 (KeepsOthers.setCell W ⟨w1.heap.size, i, none⟩ (.int .u8 c)).size
      rw [(bcell hb2).1 _ _ hlt]
      by_cases hij : i = j
      · subst hij
        rw [World.cell?_setCell_same _ _ _ k1]
        simp
        omega
      · rw [World.cell?_setCell_other _ _ _ _ (by simp), hcell j hj]
        simp [hij])
    rw [List.length_set, ← HS.out.2] at h0
    rw [HT.out]
    exact h0
  have hW2 : Below w.heap.size w (W.setCell ⟨w1.heap.size, i, none⟩ (.int .u8 c)) := (below2 hW hbW).setCell (p := ⟨w1.heap.size, i, none⟩) (by have := hW.size; exact this) _
  clear hcell hfz
  go_wp2_with fail
  go_at_call 13; refine (p1 _).mono ?_; rintro e w2 ⟨rfl, hb2⟩
  have k5 := k4 w2 hb2
  go_wp2_with fail
  go_at_call 15; refine (p2 _).mono ?_; rintro e w3 ⟨⟨o, cp, rfl⟩, hb3⟩
  go_wp2_with fail
  go_ret
  exact ⟨rfl, below2 (below2 hW2 hb2) hb3⟩

theorem frameL_len (l : List UInt8) : (frameL l).length = (putL l.length).length + 4 + l.length := by
  rw [frameL, List.length_append, List.length_append, sumL_len]; omega
theorem walk (a0 : ByteArray) (a1 a2 : Int) (a3 : ByteArray) (w : World) (b0 : a0.size ≤ 140737488351232) (b1 : -9223372036854775808 ≤ a1 ∧ a1 ≤ 9223372036854775807) (b2 : 0 ≤ a2 ∧ a2 ≤ 255) (b3 : a3.size ≤ 140737488351232) :
    Calls Try.prog 7 #[.string a0, .int .i64 a1, .int .u8 a2, .string a3] w fun e w' => e = .returned (.bool true) ∧ Below w.heap.size w w' := by
  by_cases h4 : 4096 < a0.size
  · exact skip a0 ⟨#[]⟩ a3 11 a1 a2 w b0 (by decide) b1 (fun w => put_long _ w h4 (by omega)) (.inl rfl)
  obtain ⟨p, rfl, hpl⟩ := str_list a0
  obtain ⟨more, rfl, hml⟩ := str_list a3
  have hp : p.length ≤ 4096 := by omega
  have c1 := fun w => put_ok p w hp
  have hpp := putL_le p.length hp
  have hfl := frameL_len p
  have hAs : (⟨(frameL p).toArray⟩ : ByteArray).size = (frameL p).length := size_list _
  by_cases h3 : a2 = 0
  · exact skip _ _ _ 0 a1 a2 w b0 (by omega) b1 c1 (.inr (.inl ⟨rfl, h3⟩))
  have hb : (a2 == 0) = false := by simpa using h3
  by_cases h1 : a1 < ((putL p.length).length : Int)
  · exact skip _ _ _ 0 a1 a2 w b0 (by omega) b1 c1 (.inr (.inr (.inl ⟨rfl, hb, by omega, by omega⟩)))
  by_cases h2 : ((frameL p).length : Int) ≤ a1
  · exact skip _ _ _ 0 a1 a2 w b0 (by omega) b1 c1 (.inr (.inr (.inr ⟨rfl, hb, by omega, by omega, by omega⟩)))
  obtain ⟨i, rfl⟩ := Int.eq_ofNat_of_zero_le (by omega : 0 ≤ a1)
  obtain ⟨b, rfl⟩ := Int.eq_ofNat_of_zero_le b2.1
  have hi : i < (frameL p).length := by omega
  have hxl := ((frameL p)[i]).toNat_lt
  have hX := Crc.xor_u8 ((frameL p)[i]).toNat b (by omega) (by omega)
  have hcl : ((frameL p)[i]).toNat ^^^ b < 256 := Nat.xor_lt_two_pow (n := 8) (by omega) (by omega)
  generalize hc : ((frameL p)[i]).toNat ^^^ b = c at hX hcl
  have hne : UInt8.ofNat c ≠ (frameL p)[i] := by
    intro h
    have h5 := congrArg UInt8.toNat h
    have h6 : (UInt8.ofNat c).toNat = c := by simp; omega
    rw [h6, ← hc] at h5
    have h7 := congrArg (((frameL p)[i]).toNat ^^^ ·) h5
    have h8 : b = 0 := by simpa [← Nat.xor_assoc] using h7
    exact h3 (by rw [h8]; rfl)
  have hnx := next_turned p more i (UInt8.ofNat c) hp (by omega) hi hne
  have hlen : ((frameL p).set i (UInt8.ofNat c)).length = (frameL p).length := List.length_set
  have hal : allL ((frameL p).set i (UInt8.ofNat c) ++ more) = ([], (frameL p).set i (UInt8.ofNat c) ++ more) := allL_bad hnx (by decide)
  refine core (frameL p) i b _ (c : Int) _ _ ⟨((frameL p).set i (UInt8.ofNat c)).toArray⟩ _ w hi (by omega) (by omega) (by omega) (by rw [size_list]; omega) rfl rfl hX (by simp) (by omega) (by omega) hb (by omega) c1 ?_ ?_
  · intro w
    rw [str_app]
    have := next_any ((frameL p).set i (UInt8.ofNat c) ++ more) w (by rw [List.length_append]; omega)
    unfold NextIs at this
    rw [hnx] at this
    exact this
  · intro w
    rw [str_app]
    refine (all_any ((frameL p).set i (UInt8.ofNat c) ++ more) w (by rw [List.length_append]; omega) (by rw [hal]; simp)).mono ?_
    rintro e w' ⟨v, rfl, ho, hb⟩
    rw [hal] at ho ⊢
    obtain ⟨o, cap, rfl⟩ := own_form ho
    refine ⟨⟨o, cap, ?_⟩, hb⟩
    simp

set_option maxRecDepth 100000 in
theorem lifted (os : Os) (started : os.Started) (H : Type) (enc : TypeId × Value → H) :
    ReturnsInHanded {} Try.checked os 7 .any (Rows.frameTurnedSpec.pre6 enc Try.prog Try.f7 Rows.frameTurnedRow.domain false) (Rows.frameTurnedSpec.post enc Try.prog Try.f7 false true false false) := by
  refine returnsInHanded_of_change_sized (C := Try.checked) own started (by kernel_rfl) Try.func7
    (ChangeSpec.witness6 (enc := enc) (C := Try.checked) false ⟨#[], #[.string ByteArray.empty, .int .i64 0, .int .u8 0, .string ByteArray.empty], []⟩ 8 (by kernel_rfl) (by kernel_rfl) (by kernel_rfl) (by kernel_rfl)) ?_
  intro W base args ds gs before hval0 hW _ hsz0 _
  have hsz : (DataW.weightsEach Try.prog (Try.f7.params.toList ++ Rows.frameTurnedSpec.plain.varTypes Try.prog) (ds ++ gs)).all (· ≤ reachBytes) = true := hsz0
  clear hsz0
  have hval : ∀ (j : Nat) t v, Try.f7.params[j]? = some t → args[j]? = some v → Value.okWide Try.prog W .any base t v := hval0
  have hW' := hW
  obtain ⟨p, q, hA0, hV, rfl, hfz, hnd⟩ := hW
  have hA : DataW.TrodAll enc Try.prog W 0 (fun _ => true) true Try.f7.params.toList args.toList ds p := hA0
  rw [Try.params7] at hA hval hsz
  obtain ⟨v0, vs0, d0, ds0, p0, q0, hargs, rfl, rfl, h0, r0⟩ := trodAll_cons hA
  obtain ⟨v1, vs1, d1, ds1, p1, q1, rfl, rfl, rfl, h1, r1⟩ := trodAll_cons r0
  obtain ⟨v2, vs2, d2, ds2, p2, q2, rfl, rfl, rfl, h2, r2⟩ := trodAll_cons r1
  obtain ⟨v3, vs3, d3, ds3, p3, q3, rfl, rfl, rfl, h3, r3⟩ := trodAll_cons r2
  obtain ⟨rfl, rfl, rfl⟩ := trodAll_nil r3
  obtain rfl : args = #[v0, v1, v2, v3] := by cases args; simp_all
  obtain ⟨rfl, rfl⟩ := trodVars_none hV
  obtain ⟨a0, rfl, rfl, rfl, w0⟩ := open_string Try.underlying9 (hval 0 9 v0 rfl rfl) h0
  have b0 : a0.size ≤ 140737488351232 := by
    have := sized_string hsz (j := 0) (t := 9) rfl rfl
    simpa [reachBytes] using this
  obtain ⟨a1, rfl, rfl, rfl, w1⟩ := open_int Try.underlying3 (hval 1 3 v1 rfl rfl) h1
  have b1 : -9223372036854775808 ≤ a1 ∧ a1 ≤ 9223372036854775807 := by simpa [Lit.wf, IntKind.min, IntKind.max, IntKind.signed, IntKind.bits] using w1
  obtain ⟨a2, rfl, rfl, rfl, w2⟩ := open_int Try.underlying5 (hval 2 5 v2 rfl rfl) h2
  have b2 : 0 ≤ a2 ∧ a2 ≤ 255 := by simpa [Lit.wf, IntKind.min, IntKind.max, IntKind.signed, IntKind.bits] using w2
  obtain ⟨a3, rfl, rfl, rfl, w3⟩ := open_string Try.underlying9 (hval 3 9 v3 rfl rfl) h3
  have b3 : a3.size ≤ 140737488351232 := by
    have := sized_string hsz (j := 3) (t := 9) rfl rfl
    simpa [reachBytes] using this
  clear hA0 hval0
  refine (walk a0 a1 a2 a3 W b0 b1 b2 b3).mono fun e W' ⟨he, bel⟩ => ?_
  subst he
  exact ⟨_, rfl, _, _, _, [], _, [], hW', trodAll_mk1 (shut_bool Try.underlying4 _), (trodAll_cons_mk (shut_string Try.underlying9 w0) (trodAll_cons_mk (shut_int Try.underlying3 w1) (trodAll_cons_mk (shut_int Try.underlying5 w2) (trodAll_cons_mk (shut_string Try.underlying9 w3) trodAll_mk0)))), rfl, bel.frame _, fun h => by cases h⟩

theorem over : Rows.frameTurnedRow.holds Try.pinned (OpenSpec.ofChange Rows.frameTurnedSpec) :=
  OpenClaim.holds_of_wide 7 Try.f7 rfl rfl rfl rfl rfl rfl rfl ⟨rfl, rfl, rfl, rfl, rfl⟩ rfl rfl rfl rfl rfl (by kernel_rfl) Try.func7 (by kernel_rfl)
    (of_decide_eq_true (by kernel_rfl)) (by unfold Func.isWrapper; first | (rw [if_pos (by decide +kernel)]; kernel_rfl) | (rw [if_neg (by decide +kernel)]; exact ⟨rfl, rfl⟩))
    (fun os started H enc _ => lifted os started H enc)
end frameTurned
theorem fturned_holds : Rows.FrameTurnedSaid := frameTurned.over
#print axioms fturned_holds
end Go.Proofs.Ytojgmiobjfkebaa
