/- For every row of numbers, and every two texts: spoorlaw01.NumBack returns true, and changes nothing that was there. No condition. -/
import Derived.Test.YtmbciomfkiadiaaRows
import Derived.Test.YtmbciomfkiadiaaMathBack
import Derived.ProofKit
import Derived.OpenShut
import Derived.ShutString
import Derived.SizedLaws
import Derived.ChangeOld
set_option linter.unusedVariables false
namespace Go.Proofs.Ytmbciomfkiadiaa
namespace numBack
open Go.ChangeShapes Go.WideShapes Go.ChangeAt Go.RowKit
open Go.ChangeMaps (open_string shut_string)

theorem own : ownKnob Try.prog.godebug = none := by kernel_rfl
theorem laidOut : laidOutB Try.prog = true := by kernel_rfl

theorem row_reads (v : Value) (ns : List Int) (w : World) (h : Reads w v ns) (hl : ns.length ≤ 4096) (hb : ∀ n ∈ ns, 0 ≤ n ∧ n ≤ 18446744073709551615) :
    Calls Try.prog 14 #[v] w fun e w' => e = .returned (.tuple #[.string ⟨(rowL ns).toArray⟩, .int .i64 0]) ∧ Below w.heap.size w w' := by
  have ht : ns.take ns.length = ns := List.take_of_length_le (Nat.le_refl _)
  rcases h with ⟨a, cap, rfl, rfl⟩ | ⟨b, off, cap, rfl, hlt, hm, hc⟩
  · exact row_core a 0 cap [] w ⟨by simp, by simp, fun k hk => by omega⟩ (by omega)
  · have := row_core (some ⟨b, off, none⟩) ns.length cap ns w ⟨Nat.le_refl _, hb, fun k hk => ⟨b, off, rfl, hlt, hc⟩⟩ hl
    rw [ht] at this
    exact this
theorem isEmpty_or (y : Int) : (y != 0) = true ∨ y = 0 := by
  by_cases h : y = 0
  · exact .inr h
  · exact .inl (by simpa using h)

set_option maxHeartbeats 4000000 in
theorem core (a : Option Addr) (len cap : Nat) (ns ms : List Int) (T M A B Cc Q U D Q5 : ByteArray) (y1 y2 z3 z5 : Int) (w : World)
    (hM : M.size ≤ 140737488351232) (hA : A.size ≤ 50000) (hB : B.size ≤ 50000) (hC : Cc.size ≤ 50000) (hQ : Q.size ≤ 140737488351232) (hD : D.size ≤ 50000) (hQ5 : Q5.size ≤ 140737488351232)
    (c1 : ∀ w', Below w.heap.size w w' → Calls Try.prog 14 #[.slice a len cap] w' fun e w'' => e = .returned (.tuple #[.string A, .int .i64 y1]) ∧ Below w'.heap.size w' w'')
    (h1 : y1 = 11 ∨ y1 = 0 ∧ ∀ w', Calls Try.prog 16 #[.string (A ++ M)] w' fun e w'' => ∃ v, e = .returned (.tuple #[v, .string M, .int .i64 0]) ∧ Reads w'' v ns ∧ Below w'.heap.size w' w'')
    (hr : Reads w (.slice a len cap) ns)
    (c2 : ∀ w', Calls Try.prog 20 #[.string T] w' fun e w'' => e = .returned (.tuple #[.string B, .int .i64 y2]) ∧ Below w'.heap.size w' w'')
    (h2 : y2 = 11 ∨ y2 = 0 ∧ ∀ w', Calls Try.prog 22 #[.string (B ++ M)] w' fun e w'' => e = .returned (.tuple #[.string T, .string M, .int .i64 0]) ∧ Below w'.heap.size w' w'')
    (c3 : ∀ w', Calls Try.prog 16 #[.string M] w' fun e w'' => ∃ v, e = .returned (.tuple #[v, .string Q, .int .i64 z3]) ∧ Reads w'' v ms ∧ Below w'.heap.size w' w'')
    (c4 : ∀ w' v, Reads w' v ms → Calls Try.prog 14 #[v] w' fun e w'' => e = .returned (.tuple #[.string Cc, .int .i64 0]) ∧ Below w'.heap.size w' w'')
    (h3 : (z3 != 0) = true ∨ z3 = 0 ∧ Hid (Cc ++ Q = M))
    (c5 : ∀ w', Calls Try.prog 22 #[.string M] w' fun e w'' => e = .returned (.tuple #[.string U, .string Q5, .int .i64 z5]) ∧ Below w'.heap.size w' w'')
    (c6 : ∀ w', Calls Try.prog 20 #[.string U] w' fun e w'' => e = .returned (.tuple #[.string D, .int .i64 0]) ∧ Below w'.heap.size w' w'')
    (h5 : (z5 != 0) = true ∨ z5 = 0 ∧ Hid (D ++ Q5 = M)) :
    Calls Try.prog 7 #[.slice a len cap, .string T, .string M] w fun e w' => e = .returned (.bool true) ∧ Below w.heap.size w w' := by
  have hn : ∀ w, Calls Try.prog 18 #[] w fun e w' => e = .returned (.bool true) ∧ Below w.heap.size w w' := rows_any
  have HR : Hid (Reads w (.slice a len cap) ns) := hr
  clear hr
  rcases h1 with rfl | ⟨rfl, g1⟩
  all_goals rcases h2 with rfl | ⟨rfl, g2⟩
  all_goals rcases h3 with h3 | ⟨rfl, H3⟩
  all_goals rcases h5 with h5 | ⟨rfl, H5⟩
  all_goals try have E3 : (Cc ++ Q).toList = M.toList := congrArg ByteArray.toList H3.out
  all_goals try have E5 : (D ++ Q5).toList = M.toList := congrArg ByteArray.toList H5.out
  all_goals
    go_enter Try.func7, Try.ntmps7
    go_wp2_with fail
    go_at_call 18; refine (hn _).mono ?_; rintro e w1 ⟨rfl, hW⟩
    go_wp2_with fail
    go_at_call 14; refine (c1 w1 hW).mono ?_; rintro e w2 ⟨rfl, hb2⟩
    have hW2 := below2 hW hb2
    clear hb2
    go_wp2_with fail
    try (
      go_at_call 16; refine (g1 _).mono ?_; rintro e w3 ⟨v, rfl, hv, hb3⟩
      have hW2 := below2 hW2 hb3
      have hR3 := reads_below HR.out hW2
      have HV : Hid (Reads w3 v ns ∧ Reads w3 (.slice a len cap) ns) := ⟨hv, hR3⟩
      clear hv hR3
      go_wp2_with fail
      go_at_call 19; refine (same_true v _ ns _ HV.out.1 HV.out.2).mono ?_; rintro e w4 ⟨rfl, hb4⟩
      have hW2 := below2 hW2 hb4
      clear hb3 hb4
      go_wp2_with fail)
    go_at_call 20; refine (c2 _).mono ?_; rintro e w5 ⟨rfl, hb5⟩
    have hW2 := below2 hW2 hb5
    clear hb5
    go_wp2_with fail
    try (
      go_at_call 22; refine (g2 _).mono ?_; rintro e w6 ⟨rfl, hb6⟩
      have hW2 := below2 hW2 hb6
      clear hb6
      go_wp2_with fail)
    go_at_call 16; refine (c3 _).mono ?_; rintro e w7 ⟨v7, rfl, hv7, hb7⟩
    have hW2 := below2 hW2 hb7
    clear hb7
    go_wp2_with fail
    go_at_call 14; refine (c4 _ _ hv7).mono ?_; rintro e w8 ⟨rfl, hb8⟩
    have hW2 := below2 hW2 hb8
    clear hb8 hv7
    go_wp2_with fail
    go_at_call 22; refine (c5 _).mono ?_; rintro e w9 ⟨rfl, hb9⟩
    have hW2 := below2 hW2 hb9
    clear hb9
    go_wp2_with fail
    go_at_call 20; refine (c6 _).mono ?_; rintro e w10 ⟨rfl, hb10⟩
    have hW2 := below2 hW2 hb10
    clear hb10
    go_wp2_with fail
    go_ret
    refine ⟨ret_bool ?_, hW2⟩
    first | rfl | (simp [E3, E5]; done) | (simp [E3]; done) | (simp [E5]; done) | (simp; done)

theorem rowL_size (ns : List Int) (hl : ns.length ≤ 4096) (hb : ∀ n ∈ ns, 0 ≤ n ∧ n ≤ 18446744073709551615) : (⟨(rowL ns).toArray⟩ : ByteArray).size ≤ 50000 := by
  rw [size_list, rowL, List.length_append]
  have h1 := putL_le ns.length (by omega)
  have h2 := allL_le ns hb
  omega
theorem textL_size (t : List UInt8) (hl : t.length ≤ 32768) : (⟨(textL t).toArray⟩ : ByteArray).size ≤ 50000 := by
  rw [size_list, textL, List.length_append]
  have h1 := putL_le t.length (by omega)
  omega

theorem walk (a0 : Option Addr) (len0 cap0 : Nat) (z0 : List Int) (a1 a2 : ByteArray) (w : World) (b0 : IsRow .u64 w a0 len0 cap0 z0) (b1 : a1.size ≤ 140737488351232) (b2 : a2.size ≤ 140737488351232) :
    Calls Try.prog 7 #[.slice a0 len0 cap0, .string a1, .string a2] w fun e w' => e = .returned (.bool true) ∧ Below w.heap.size w w' := by
  obtain ⟨t, rfl, ht⟩ := str_list a1
  obtain ⟨l, rfl, hl⟩ := str_list a2
  obtain ⟨hlz, hzc, hcm, hzb⟩ := isRow_len b0
  have hm : len0 ≤ 9223372036854775807 := by unfold maxLen at hcm; omega
  have hns : ∀ n ∈ z0.take len0, 0 ≤ n ∧ n ≤ 18446744073709551615 := fun n hn => hzb n (List.mem_of_mem_take hn)
  have hnl : (z0.take len0).length = len0 := by rw [List.length_take]; omega
  -- what is read from 'more'
  obtain ⟨⟨ms, q, z3⟩, hR⟩ : ∃ r, getRowL l = r := ⟨_, rfl⟩
  obtain ⟨⟨u, q5, z5⟩, hT⟩ : ∃ r, getTextL l = r := ⟨_, rfl⟩
  have hql : q.length ≤ l.length := by have := getRowL_le l; rw [hR] at this; exact this
  have hql5 : q5.length ≤ l.length := by have := getTextL_le l; rw [hT] at this; exact this
  have hms : ms.length ≤ 4096 ∧ (∀ n ∈ ms, 0 ≤ n ∧ n ≤ 18446744073709551615) ∧ ((z3 != 0) = true ∨ z3 = 0 ∧ Hid ((⟨(rowL ms).toArray⟩ ++ ⟨q.toArray⟩ : ByteArray) = ⟨l.toArray⟩)) := by
    rcases isEmpty_or z3 with h | h
    · have : ms = [] := getRowL_none hR (by simpa using h)
      subst this
      exact ⟨by simp, by simp, .inl h⟩
    · subst h
      obtain ⟨e1, e2, e3⟩ := getRowL_back hR
      exact ⟨e1, e3, .inr ⟨rfl, (by rw [str_app, e2] : _ = _)⟩⟩
  have hut : u.length ≤ 32768 ∧ ((z5 != 0) = true ∨ z5 = 0 ∧ Hid ((⟨(textL u).toArray⟩ ++ ⟨q5.toArray⟩ : ByteArray) = ⟨l.toArray⟩)) := by
    rcases isEmpty_or z5 with h | h
    · have : u = [] := getTextL_none hT (by simpa using h)
      subst this
      exact ⟨by simp, .inl h⟩
    · subst h
      obtain ⟨e1, e2⟩ := getTextL_back hT
      exact ⟨e1, .inr ⟨rfl, (by rw [str_app, e2] : _ = _)⟩⟩
  have c3 : ∀ w', Calls Try.prog 16 #[.string ⟨l.toArray⟩] w' fun e w'' => ∃ v, e = .returned (.tuple #[v, .string ⟨q.toArray⟩, .int .i64 z3]) ∧ Reads w'' v ms ∧ Below w'.heap.size w' w'' := fun w' => by
    refine (getRow_any l w' (by omega)).mono ?_
    rw [hR]
    rintro e w'' ⟨v, he, ho, hb⟩
    exact ⟨v, he, reads_own ho, hb⟩
  have c5 : ∀ w', Calls Try.prog 22 #[.string ⟨l.toArray⟩] w' fun e w'' => e = .returned (.tuple #[.string ⟨u.toArray⟩, .string ⟨q5.toArray⟩, .int .i64 z5]) ∧ Below w'.heap.size w' w'' := fun w' => by
    have := getText_any l w' (by omega)
    rw [hT] at this
    exact this
  -- the row and the text that are put
  have hrow : ∃ A : ByteArray, ∃ y1 : Int, A.size ≤ 50000 ∧ (∀ w', Below w.heap.size w w' → Calls Try.prog 14 #[.slice a0 len0 cap0] w' fun e w'' => e = .returned (.tuple #[.string A, .int .i64 y1]) ∧ Below w'.heap.size w' w'') ∧
      (y1 = 11 ∨ y1 = 0 ∧ ∀ w', Calls Try.prog 16 #[.string (A ++ ⟨l.toArray⟩)] w' fun e w'' => ∃ v, e = .returned (.tuple #[v, .string ⟨l.toArray⟩, .int .i64 0]) ∧ Reads w'' v (z0.take len0) ∧ Below w'.heap.size w' w'') := by
    by_cases h : len0 ≤ 4096
    · have hsz := rowL_size (z0.take len0) (by omega) hns
      refine ⟨_, 0, hsz, fun w' hb => row_any a0 len0 cap0 z0 w' (isRow_below b0 hb) h, .inr ⟨rfl, fun w' => ?_⟩⟩
      rw [size_list] at hsz
      rw [str_app]
      refine (getRow_any (rowL (z0.take len0) ++ l) w' (by rw [List.length_append]; omega)).mono ?_
      rw [getRowL_row (z0.take len0) l (by omega) hns]
      rintro e w'' ⟨v, he, ho, hb⟩
      exact ⟨v, he, reads_own ho, hb⟩
    · exact ⟨⟨#[]⟩, 11, by decide, fun w' _ => row_long a0 len0 cap0 w' (by omega) hm, .inl rfl⟩
  have htext : ∃ B : ByteArray, ∃ y2 : Int, B.size ≤ 50000 ∧ (∀ w', Calls Try.prog 20 #[.string ⟨t.toArray⟩] w' fun e w'' => e = .returned (.tuple #[.string B, .int .i64 y2]) ∧ Below w'.heap.size w' w'') ∧
      (y2 = 11 ∨ y2 = 0 ∧ ∀ w', Calls Try.prog 22 #[.string (B ++ ⟨l.toArray⟩)] w' fun e w'' => e = .returned (.tuple #[.string ⟨t.toArray⟩, .string ⟨l.toArray⟩, .int .i64 0]) ∧ Below w'.heap.size w' w'') := by
    by_cases h : t.length ≤ 32768
    · have hsz := textL_size t h
      refine ⟨_, 0, hsz, fun w' => text_any t w' h, .inr ⟨rfl, fun w' => ?_⟩⟩
      rw [size_list] at hsz
      rw [str_app]
      have := getText_any (textL t ++ l) w' (by rw [List.length_append]; omega)
      rw [getTextL_text t l h] at this
      exact this
    · exact ⟨⟨#[]⟩, 11, by decide, fun w' => text_long ⟨t.toArray⟩ w' (by omega) (by omega), .inl rfl⟩
  obtain ⟨A, y1, hA, c1, h1⟩ := hrow
  obtain ⟨B, y2, hB, c2, h2⟩ := htext
  exact core a0 len0 cap0 (z0.take len0) ms ⟨t.toArray⟩ ⟨l.toArray⟩ A B ⟨(rowL ms).toArray⟩ ⟨q.toArray⟩ ⟨u.toArray⟩ ⟨(textL u).toArray⟩ ⟨q5.toArray⟩ y1 y2 z3 z5 w
    b2 hA hB (rowL_size ms hms.1 hms.2.1) (by rw [size_list]; omega) (textL_size u hut.1) (by rw [size_list]; omega) c1 h1 (reads_row b0) c2 h2 c3
    (fun w' v hv => row_reads v ms w' hv hms.1 hms.2.1) hms.2.2 c5 (fun w' => text_any u w' hut.1) hut.2

set_option maxRecDepth 100000 in
theorem lifted (os : Os) (started : os.Started) (H : Type) (enc : TypeId × Value → H) :
    ReturnsInHanded {} Try.checked os 7 .any (Rows.numBackSpec.pre6 enc Try.prog Try.f7 Rows.numBackRow.domain false) (Rows.numBackSpec.post enc Try.prog Try.f7 false true false false) := by
  refine returnsInHanded_of_change_sized (C := Try.checked) own started (by kernel_rfl) Try.func7
    (ChangeSpec.witness6 (enc := enc) (C := Try.checked) false ⟨#[], #[.slice none 0 0, .string ByteArray.empty, .string ByteArray.empty], []⟩ 8 (by kernel_rfl) (by kernel_rfl) (by kernel_rfl) (by kernel_rfl)) ?_
  intro W base args ds gs before hval0 hW _ hsz0 _
  have hsz : (DataW.weightsEach Try.prog (Try.f7.params.toList ++ Rows.numBackSpec.plain.varTypes Try.prog) (ds ++ gs)).all (· ≤ reachBytes) = true := hsz0
  clear hsz0
  have hval : ∀ (j : Nat) t v, Try.f7.params[j]? = some t → args[j]? = some v → Value.okWide Try.prog W .any base t v := hval0
  have hW' := hW
  obtain ⟨p, q, hA0, hV, rfl, hfz, hnd⟩ := hW
  have hA : DataW.TrodAll enc Try.prog W 0 (fun _ => true) true Try.f7.params.toList args.toList ds p := hA0
  rw [Try.params7] at hA hval hsz
  obtain ⟨v0, vs0, d0, ds0, p0, q0, hargs, rfl, rfl, h0, r0⟩ := trodAll_cons hA
  obtain ⟨v1, vs1, d1, ds1, p1, q1, rfl, rfl, rfl, h1, r1⟩ := trodAll_cons r0
  obtain ⟨v2, vs2, d2, ds2, p2, q2, rfl, rfl, rfl, h2, r2⟩ := trodAll_cons r1
  obtain ⟨rfl, rfl, rfl⟩ := trodAll_nil r2
  obtain rfl : args = #[v0, v1, v2] := by cases args; simp_all
  obtain ⟨rfl, rfl⟩ := trodVars_none hV
  obtain ⟨a0, len0, cap0, rfl⟩ := okWide_slice Try.underlying30 (hval 0 30 v0 rfl rfl)
  have k0 := h0
  have lt0 : ∀ x ∈ p0, x.block < W.heap.size := by obtain ⟨m, hm⟩ := k0; exact DataW.trod_lt m _ _ _ hm
  obtain ⟨z0, b0⟩ : ∃ zs, IsRow .u64 W a0 len0 cap0 zs := by
    obtain ⟨fuel, hf⟩ := h0
    rcases open_ints Try.underlying30 Try.underlying22 (by kernel_rfl) hf with ⟨hcs, _⟩ | ⟨x, l, c, zs, hcs, _, hl, hm, hz, _, hcell, hwz⟩
    · simp [Value.cells] at hcs
      obtain ⟨rfl, rfl, rfl⟩ := hcs
      exact ⟨[], .inl ⟨rfl, rfl, rfl, rfl⟩⟩
    · simp [Value.cells] at hcs
      obtain ⟨rfl, rfl, rfl⟩ := hcs
      exact ⟨zs, .inr ⟨_, rfl, hl, hm, by simpa using hz, hcell, hwz⟩⟩
  obtain ⟨a1, rfl, rfl, rfl, w1⟩ := open_string Try.underlying9 (hval 1 9 v1 rfl rfl) h1
  have b1 : a1.size ≤ 140737488351232 := by
    have := sized_string hsz (j := 1) (t := 9) rfl rfl
    simpa [reachBytes] using this
  obtain ⟨a2, rfl, rfl, rfl, w2⟩ := open_string Try.underlying9 (hval 2 9 v2 rfl rfl) h2
  have b2 : a2.size ≤ 140737488351232 := by
    have := sized_string hsz (j := 2) (t := 9) rfl rfl
    simpa [reachBytes] using this
  clear hA0 hval0
  refine (walk a0 len0 cap0 z0 a1 a2 W b0 b1 b2).mono fun e W' ⟨he, bel⟩ => ?_
  subst he
  exact ⟨_, rfl, _, _, _, [], _, [], hW', trodAll_mk1 (shut_bool Try.underlying4 _), (trodAll_cons_mk (Below.trod laidOut (by kernel_rfl) (of_decide_eq_true (by kernel_rfl)) k0 bel lt0) (trodAll_cons_mk (shut_string Try.underlying9 w1) (trodAll_cons_mk (shut_string Try.underlying9 w2) trodAll_mk0))), rfl, bel.frame _, fun h => by cases h⟩

theorem over : Rows.numBackRow.holds Try.pinned (OpenSpec.ofChange Rows.numBackSpec) :=
  OpenClaim.holds_of_wide 7 Try.f7 rfl rfl rfl rfl rfl rfl rfl ⟨rfl, rfl, rfl, rfl, rfl⟩ rfl rfl rfl rfl rfl (by kernel_rfl) Try.func7 (by kernel_rfl)
    (of_decide_eq_true (by kernel_rfl)) (by unfold Func.isWrapper; first | (rw [if_pos (by decide +kernel)]; kernel_rfl) | (rw [if_neg (by decide +kernel)]; exact ⟨rfl, rfl⟩))
    (fun os started H enc _ => lifted os started H enc)
end numBack
theorem back_holds : Rows.NumBackSaid := numBack.over
#print axioms back_holds
end Go.Proofs.Ytmbciomfkiadiaa
