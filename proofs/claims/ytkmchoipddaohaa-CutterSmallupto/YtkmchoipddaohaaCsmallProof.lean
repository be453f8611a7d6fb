/- For every cutter and chunk, which together hold at most 1,048,576 values and letters (the second form's bound): spoorlaw12.CutterSmall returns true, and changes nothing that was there. -/
import Derived.Test.YtkmchoipddaohaaUptoKit
import Derived.Test.YtkmchoipddaohaaCutSame
import Derived.Test.YtkmchoipddaohaaCutOpen
import Derived.ShutString
import Derived.JoinedCond
import Derived.Deep.CondSized
set_option linter.unusedVariables false
namespace Go.Proofs.Ytkmchoipddaohaa
namespace cutterSmall
open Go.ChangeShapes Go.WideShapes Go.ChangeAt Go.RowKit Go.Shelf
open Go.ChangeMaps (open_string shut_string)
open Go.Proofs.Ytkmchoipddaohaa.Cut

theorem own : ownKnob Try.prog.godebug = none := by kernel_rfl
theorem laidOut : laidOutB Try.prog = true := by kernel_rfl
set_option maxHeartbeats 4000000 in
theorem walk0 (c : Ct) (l : List UInt8) (w : World) (hf : FitC c) (hl : l.length ≤ 1048576) :
    Calls Try.prog 6 #[ctV c, .string ⟨l.toArray⟩] w fun e w' => e = .returned (.bool true) ∧ Below w.heap.size w w' := by
  have cf := fun W => feed_any c l W hf (by omega)
  have cl := lives_any
  have hpc : ∀ p ∈ (fedC c l).2, PcOk p := by
    unfold fedC; split
    · exact feed_pcs l c
    · intro p hp; simp at hp
  have hlen : (fedC c l).2.length ≤ l.length := by
    unfold fedC; split
    · exact feed_len l c
    · simp
  have hok : checkC c = 0 → okC (fedC c l).1 = true := by
    unfold fedC checkC; intro h
    cases ho : okC c
    · rw [ho] at h; simp at h
    · exact feed_ok l ho
  have hbad : ¬ checkC c = 0 → (fedC c l).2.length = 0 := by
    unfold fedC checkC; intro h
    cases ho : okC c
    · simp
    · rw [ho] at h; simp at h
  obtain ⟨r, b, s⟩ := c
  generalize fedC ⟨r, b, s⟩ l = F at *
  have hke : checkC ⟨r, b, s⟩ = 0 ∨ checkC ⟨r, b, s⟩ = 2 := by unfold checkC; split <;> simp
  generalize checkC ⟨r, b, s⟩ = E at *
  obtain ⟨⟨r2, b2, s2⟩, ps⟩ := F
  simp only at *
  unfold ctV strV at *
  simp only at *
  obtain ⟨X, hX⟩ : ∃ X, X = w.alloc (.cells #[.string ⟨r.toArray⟩, .bool b, .int .i64 s] 23) := ⟨_, rfl⟩
  have hB : Below w.heap.size w X := by rw [hX]; exact below_new (Below.refl _ _) _
  have r0 : RowAt X w.heap.size [.string ⟨r.toArray⟩, .bool b, .int .i64 s] 23 := by rw [hX]; exact RowAt.new _ _ _
  go_enter Try.func6, Try.ntmps6
  go_upto_region 1 with fail
  rw [← hX]
  clear hX
  go_wp2_with fail
  go_at_call 11; refine (cl _).mono ?_; rintro e w1 ⟨rfl, hb1⟩
  replace hB := below2 hB hb1
  replace r0 := r0.below hb1
  clear hb1 cl
  obtain ⟨x0, x1, x2, xf⟩ := cells3 r0
  go_wp2_with fail
  go_at_call 7; refine (cf _).mono ?_; rintro e w2 ⟨V, rfl, hp, hb2⟩
  replace hB := below2 hB hb2
  obtain ⟨o, cp, rfl, hc1, hc2⟩ := HasRow.slice hp
  clear hb2 cf x0 x1 x2 xf r0
  go_upto_region 4 with fail
  obtain ⟨Y, hY⟩ : ∃ Y, Y = w2.alloc (.cells #[.string ⟨r2.toArray⟩, .bool b2, .int .i64 s2] 23) := ⟨_, rfl⟩
  have r1 : RowAt Y w2.heap.size [.string ⟨r2.toArray⟩, .bool b2, .int .i64 s2] 23 := by rw [hY]; exact RowAt.new _ _ _
  have hbx : Below w2.heap.size w2 Y := by rw [hY]; exact below_new (Below.refl _ _) _
  rw [← hY]
  clear hY
  replace hp := hp.keep hbx
  replace hB := below2 hB hbx
  generalize w2.heap.size = g at r1 ⊢
  clear hbx
  obtain ⟨x0, x1, x2, xf⟩ := cells3 r1
  have HP : Hid (∀ wr, Below Y.heap.size Y wr → HasPcs wr (.slice o ps.length cp) ps) := fun wr hb => hp.keep hb
  obtain ⟨n, hn⟩ : ∃ n, n = ps.length := ⟨_, rfl⟩
  have HN : Hid (n = ps.length) := hn
  rw [← hn] at HP hlen hbad hc1 ⊢
  have hni : (n : Int) ≤ 1048576 := by omega
  have hnl : decide ((l.length : Int) < (n : Int)) = false := decide_eq_false (by omega)
  have hnl' : decide (l.length < n) = false := decide_eq_false (by omega)
  clear hp hn
  by_cases hE : E = 0
  · subst hE
    have ho := hok rfl
    have hrl := rest_le ho
    have hsk := ((okC_iff _).1 ho).2.1
    simp only at hrl hsk
    have t1 : decide ((66 : Int) < (r2.length : Int)) = false := decide_eq_false (by omega)
    have t1' : decide (66 < r2.length) = false := decide_eq_false (by omega)
    have t2 : decide (s2 < 0) = false := decide_eq_false (by omega)
    have t3 : decide (65535 < s2) = false := decide_eq_false (by omega)
    have hri : (r2.length : Int) ≤ 66 := by omega
    clear hok hbad hke ho
    go_wp2_with fail
    go_loopw [47] (fun i wr => ∃ k : Nat, k ≤ n ∧ i = .int .i64 k ∧ Below Y.heap.size Y wr) (fun i _ => n - (intOf i).toNat)
    case atStart => exact ⟨0, by omega, rfl, Below.refl _ _⟩
    case round =>
      obtain ⟨k, hk, rfl, hBr⟩ := hrel
      have ha := HP.out _ hBr
      by_cases hlt : k < n
      · have hkz : k < ps.length := by rw [← HN.out]; exact hlt
        obtain ⟨g1, i1, rfl, _, a1, a2⟩ := HasPcs.cell ha k hkz
        have hpk := hpc ps[k] (List.getElem_mem hkz)
        unfold strV at a2
        generalize ps[k] = p at hpk a1 a2
        obtain ⟨kd, bd⟩ := p
        simp only at a1 a2
        have hki : (k : Int) < (n : Int) := by omega
        have hrel' := below_new hBr (.cells #[.int .u8 (kd : Int), .string ⟨bd.toArray⟩] 38)
        clear ha
        rcases hpk with ⟨h1, h2, h3⟩ | ⟨h1, h2⟩
        · simp only at h1 h2 h3
          subst h1
          have u1 : decide ((bd.length : Int) < 1) = false := decide_eq_false (by omega)
          have u1' : decide (bd.length < 1) = false := decide_eq_false (by omega)
          have u2 : decide ((64 : Int) < (bd.length : Int)) = false := decide_eq_false (by omega)
          have u2' : decide (64 < bd.length) = false := decide_eq_false (by omega)
          go_wp2_with fail
          go_roundw
          case rel => exact ⟨k + 1, by omega, by go_num, hrel'⟩
          case measure => simp [intOf]; omega
        · simp only at h1 h2
          subst h2
          rcases h1 with h1 | h1
          all_goals
            subst h1
            go_wp2_with fail
            go_roundw
            case rel => exact ⟨k + 1, by omega, by go_num, hrel'⟩
            case measure => simp [intOf]; omega
      · go_wp2_with fail
        go_ret
        exact ⟨rfl, below2 hB hBr⟩
  · have hE2 : (E != 0) = true := by simp [hE]
    have hn0 := hbad hE
    have hEr : -9223372036854775808 ≤ E ∧ E ≤ 9223372036854775807 := by rcases hke with h | h <;> omega
    subst hn0
    clear hE hbad hke hok
    go_wp2_with fail
    go_ret
    exact ⟨rfl, hB⟩
theorem walk (c0 : Ct) (a1 : ByteArray) (w : World) (b0 : c0.rest.length ≤ 1048576) (f0 : -9223372036854775808 ≤ c0.skip ∧ c0.skip ≤ 9223372036854775807) (b1 : a1.size ≤ 1048576) :
    Calls Try.prog 6 #[ctV c0, .string a1] w fun e w' => e = .returned (.bool true) ∧ Below w.heap.size w w' := by
  obtain ⟨l, rfl, hd⟩ := str_list a1
  exact walk0 c0 l w ⟨by omega, f0⟩ (by omega)

set_option maxRecDepth 100000 in
theorem contract (H : Type) (enc : TypeId × Value → H) (W : World) (base : Nat) (args : Array Value) (ds gs : List (DataW H)) (before : List MemPlace)
    (hval0 : ∀ (j : Nat) t v, Try.f6.params[j]? = some t → args[j]? = some v → Value.okWide Try.prog W .any base t v)
    (hW : DataW.Whole enc Try.prog Try.f6.params.toList Rows.cutterSmallSpec.vars false W args.toList ds gs before) (hk : Rows.uptoSmall H (ds ++ gs) = true)
    (hsz0 : (DataW.weightsEach Try.prog (Try.f6.params.toList ++ Rows.cutterSmallSpec.plain.varTypes Try.prog) (ds ++ gs)).all (· ≤ reachBytes) = true) :
    Calls Try.prog 6 args W fun e W' => ∃ v, e = .returned v ∧ Rows.cutterSmallSpec.post enc Try.prog Try.f6 false true false false W args v W' := by
  have hsz : (DataW.weightsEach Try.prog (Try.f6.params.toList ++ Rows.cutterSmallSpec.plain.varTypes Try.prog) (ds ++ gs)).all (· ≤ reachBytes) = true := hsz0
  clear hsz0
  have hval : ∀ (j : Nat) t v, Try.f6.params[j]? = some t → args[j]? = some v → Value.okWide Try.prog W .any base t v := hval0
  have hW' := hW
  obtain ⟨p, q, hA0, hV, rfl, hfz, hnd⟩ := hW
  have hA : DataW.TrodAll enc Try.prog W 0 (fun _ => true) true Try.f6.params.toList args.toList ds p := hA0
  rw [Try.params6] at hA hval hsz
  obtain ⟨v0, vs0, d0, ds0, p0, q0, hargs, rfl, rfl, h0, r0⟩ := trodAll_cons hA
  obtain ⟨v1, vs1, d1, ds1, p1, q1, rfl, rfl, rfl, h1, r1⟩ := trodAll_cons r0
  obtain ⟨rfl, rfl, rfl⟩ := trodAll_nil r1
  obtain rfl : args = #[v0, v1] := by cases args; simp_all
  obtain ⟨rfl, rfl⟩ := trodVars_none hV
  have k0 := h0
  have lt0 : ∀ x ∈ p0, x.block < W.heap.size := by obtain ⟨m, hm⟩ := k0; exact DataW.trod_lt m _ _ _ hm
  obtain ⟨c0, rfl, f0, ds0', rfl, g0⟩ := Cut.open_cut (hval 0 23 v0 rfl rfl) h0
  have b0 := bulk_part hk (j := 0) rfl g0
  obtain ⟨a1, rfl, rfl, rfl, w1⟩ := open_string Try.underlying9 (hval 1 9 v1 rfl rfl) h1
  have b1 : a1.size ≤ 1048576 := bulk_str hk (j := 1) rfl
  clear hA0 hval0
  refine (walk c0 a1 W b0 f0 b1).mono fun e W' ⟨he, bel⟩ => ?_
  subst he
  exact ⟨_, rfl, _, _, _, [], _, [], hW', trodAll_mk1 (shut_bool Try.underlying4 _), (trodAll_cons_mk (Below.trod laidOut (by kernel_rfl) (of_decide_eq_true (by kernel_rfl)) k0 bel lt0) (trodAll_cons_mk (shut_string Try.underlying9 w1) trodAll_mk0)), rfl, bel.frame _, fun h => by cases h⟩
set_option maxRecDepth 100000 in
theorem lifted (os : Os) (started : os.Started) (H : Type) (enc : TypeId × Value → H) (F : Stop.Interp) :
    ReturnsInHanded {} Try.checked os 6 .any ((Rows.OpenSpec.upto Rows.cutterSmallSpec).pre6 enc Try.prog Try.f6 Rows.cutterSmallUptoRow.domain false) (((Rows.OpenSpec.upto Rows.cutterSmallSpec).at F).post enc Try.prog Try.f6 false true false false) := by
  refine returnsInHanded_of_cond_sized (C := Try.checked) (s := Rows.OpenSpec.upto Rows.cutterSmallSpec) (k := Rows.uptoSmall) rfl own started (by kernel_rfl) Try.func6
    (OpenSpec.witness (enc := enc) (C := Try.checked) (s := Rows.OpenSpec.upto Rows.cutterSmallSpec) (k := Rows.uptoSmall) rfl false ⟨#[], #[.agg #[.string ByteArray.empty, .bool false, .int .i64 0], .string ByteArray.empty], []⟩ 8 (by kernel_rfl) (by kernel_rfl) (by kernel_rfl)
      (x := ([.agg [.lit (.string []), .lit (.bool false), .lit (.int .i64 0)], .lit (.string [])], [], [])) (by kernel_rfl) rfl (by kernel_rfl)) ?_
  intro W base args ds gs before hval hW _ hk hsz _
  exact contract H enc W base args ds gs before hval hW hk hsz

theorem over : Rows.cutterSmallUptoRow.holds Try.pinned (Rows.OpenSpec.upto Rows.cutterSmallSpec) :=
  OpenClaim.holds_of_cond 6 Try.f6 rfl rfl rfl rfl rfl rfl rfl ⟨rfl, rfl, rfl, rfl, rfl⟩ rfl rfl rfl rfl rfl (by kernel_rfl) Try.func6 (by kernel_rfl)
    (of_decide_eq_true (by kernel_rfl)) (by unfold Func.isWrapper; first | (rw [if_pos (by decide +kernel)]; kernel_rfl) | (rw [if_neg (by decide +kernel)]; exact ⟨rfl, rfl⟩))
    (fun os started H enc _ F => lifted os started H enc F)
end cutterSmall
theorem csmall_holds : Rows.CutterSmallUptoSaid := cutterSmall.over
#print axioms csmall_holds
end Go.Proofs.Ytkmchoipddaohaa
