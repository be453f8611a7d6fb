/- For every row of texts and every number: spoorlaw04.FrameCut returns true, and changes nothing that was there. No condition. -/
import Derived.Test.YtojgmiobjfkebaaRows
import Derived.Test.YtojgmiobjfkebaaWalkLive4
import Derived.Test.YtojgmiobjfkebaaMathCut
import Derived.Deep.Strs
import Derived.ProofKit
import Derived.OpenShut
import Derived.ShutString
import Derived.SizedLaws
set_option linter.unusedVariables false
namespace Go.Proofs.Ytojgmiobjfkebaa
namespace frameCut
open Go.ChangeShapes Go.WideShapes Go.ChangeAt Go.RowKit
open Go.ChangeMaps (open_string shut_string)
open Go.Proofs.Ytojgmiobjfkebaa.Frame

theorem own : ownKnob Try.prog.godebug = none := by kernel_rfl
theorem laidOut : laidOutB Try.prog = true := by kernel_rfl

theorem has_take {w : World} {a : Option Addr} {len cap : Nat} {zs : List (List UInt8)} (h : HasStrs w (.slice a len cap) zs) (j : Nat) (hj : j ≤ zs.length) : HasStrs w (.slice a j cap) (zs.take j) := by
  obtain ⟨o, c, e, hc⟩ := h
  injection e with e1 e2 e3
  subst e1; subst e3
  refine ⟨_, _, by rw [List.length_take, Nat.min_eq_left hj], fun i hi => ?_⟩
  rw [List.length_take] at hi
  obtain ⟨b, k, e, hcell, hlt⟩ := hc i (by omega)
  exact ⟨b, k, e, by rw [hcell]; simp, hlt⟩

set_option maxHeartbeats 1000000 in
theorem walk (a0 : Option Addr) (len0 cap0 : Nat) (z0 : List (List UInt8)) (a1 : Int) (w : World) (b0 : IsStrs w a0 len0 cap0 z0) (b1 : -9223372036854775808 ≤ a1 ∧ a1 ≤ 9223372036854775807) :
    Calls Try.prog 6 #[.slice a0 len0 cap0, .int .i64 a1] w fun e w' => e = .returned (.bool true) ∧ Below w.heap.size w w' := by
  have hv : ∀ w, Calls Try.prog 12 #[] w fun e w' => e = .returned (.bool true) ∧ Below w.heap.size w w' := lives_any
  have hkeep : ∀ w', Below w.heap.size w w' → IsStrs w' a0 len0 cap0 z0 := fun w' hb => ⟨b0.1.keep hb, b0.2⟩
  have hlen := b0.2.1
  have hlc := b0.2.2.1
  have hcm := b0.2.2.2.1
  clear b0
  by_cases hG : Fit20 z0
  · have hf : ∀ w', Below w.heap.size w w' → Calls Try.prog 20 #[.slice a0 len0 cap0] w' fun e w'' => e = .returned (.tuple #[.string ⟨(catL z0).toArray⟩, .bool true]) ∧ Below w'.heap.size w' w'' := fun w' hb =>
      (frames_any a0 len0 cap0 z0 w' (hkeep w' hb)).mono (fun e w'' h => ⟨by rcases h.1 with h | h; exact h.2; exact absurd hG h.1, h.2⟩)
    have hcat := catL_le z0 hG.2
    have hn20 := hG.1
    obtain ⟨A, hA⟩ : ∃ A : ByteArray, A = ⟨(catL z0).toArray⟩ := ⟨_, rfl⟩
    have hAs : A.size = (catL z0).length := by rw [hA, size_list]
    have hA9 : A.size ≤ 100000 := by omega
    rw [← hA] at hf
    by_cases h0 : a1 < 0
    · clear hA hAs hG hcat hkeep hlen hlc hcm hn20
      go_enter Try.func6, Try.ntmps6
      go_wp2_with fail
      go_at_call 12; refine (hv _).mono ?_; rintro e w1 ⟨rfl, hW⟩
      go_wp2_with fail
      go_at_call 20; refine (hf _ hW).mono ?_; rintro e w2 ⟨rfl, hb⟩
      have hW := below2 hW hb
      go_wp2
      go_ret
      exact ⟨rfl, hW⟩
    obtain ⟨k, rfl⟩ := Int.eq_ofNat_of_zero_le (show 0 ≤ a1 by omega)
    clear h0
    by_cases h9 : A.size < k
    · clear hA hAs hG hcat hkeep hlen hlc hcm hn20
      go_enter Try.func6, Try.ntmps6
      go_wp2_with fail
      go_at_call 12; refine (hv _).mono ?_; rintro e w1 ⟨rfl, hW⟩
      go_wp2_with fail
      go_at_call 20; refine (hf _ hW).mono ?_; rintro e w2 ⟨rfl, hb⟩
      have hW := below2 hW hb
      go_wp2
      go_ret
      exact ⟨rfl, hW⟩
    have hkA : k ≤ A.size := by omega
    clear h9
    have hall := all_cut z0 hG.2 k
    obtain ⟨j, hj⟩ : ∃ j, j = cutN z0 k := ⟨_, rfl⟩
    have hjl := cutN_le z0 k
    have hjs := cutN_size z0 k
    have hiff := cutN_iff z0 k
    rw [← hj] at hall hjl hjs hiff
    obtain ⟨n, hn⟩ : ∃ n, n = (catL (z0.take j)).length := ⟨_, rfl⟩
    rw [← hn] at hall hjs
    have hcl : ((catL z0).take k).length = k := by rw [List.length_take]; omega
    have c2 := fun w => all_any ((catL z0).take k) w (by omega) (by rw [hall]; simp; omega)
    rw [hall] at c2
    simp only [List.length_drop, hcl, List.length_take] at c2
    have hcut : ByteArray.extract A 0 k = ⟨((catL z0).take k).toArray⟩ := by rw [extract_take, hA]
    rw [← hcut, Nat.min_eq_left (by omega), show (k : Int) - ((k - n : Nat) : Int) = (n : Int) by omega] at c2
    have HN : Hid (n = (catL (z0.take j)).length) := hn
    have HI : Hid (∀ i, i < z0.length → (i < j ↔ (catL (z0.take (i + 1))).length ≤ k)) := hiff
    have HG : Hid (∀ z ∈ z0, z.length ≤ 4096) := hG.2
    have HL : Hid (len0 = z0.length) := hlen
    have hl20 : len0 ≤ 20 := by omega
    have hjl' : j ≤ len0 := by omega
    have hjt : (z0.take j).length ≤ 1000000000 := by simp; omega
    have hHT : ∀ w', Below w.heap.size w w' → HasStrs w' (.slice a0 j cap0) (z0.take j) := fun w' hb => has_take (hkeep w' hb).1 j hjl
    have hjc : j ≤ cap0 := by omega
    have hHas : ∀ w', Below w.heap.size w w' → HasStrs w' (.slice a0 len0 cap0) z0 := fun w' hb => (hkeep w' hb).1
    have HC : Hid (∀ i, i < z0.length → (catL (z0.take i)).length ≤ 100000) := fun i hi => by
      have h1 := catL_le (z0.take i) (fun z hz => hG.2 z (List.mem_of_mem_take hz))
      have h2 : (z0.take i).length ≤ i := by simp; omega
      omega
    clear hn hiff hG hlen hjl hkeep hall hcl hcut hcat hAs hA hj
    have y1 : decide ((k : Int) < 0) = false := by simp
    have y2 : decide (k < n) = false := by simp; omega
    have y3 : decide (len0 < j) = false := by simp; omega
    go_enter Try.func6, Try.ntmps6
    go_wp2_with fail
    go_at_call 12; refine (hv _).mono ?_; rintro e w1 ⟨rfl, hW⟩
    go_wp2_with fail
    go_at_call 20; refine (hf _ hW).mono ?_; rintro e w2 ⟨rfl, hb⟩
    have hW := below2 hW hb
    go_wp2_with fail
    go_at_call 15; refine (c2 _).mono ?_; rintro e w3 ⟨v2, rfl, o2, hb⟩
    have hW := below2 hW hb
    have r2 := has_own (zs := z0.take j) (by rw [List.length_take, Nat.min_eq_left (by rw [← HL.out]; exact hjl')]; exact o2)
    obtain ⟨oo, cc, hv2, _⟩ := r2
    have r2 := has_own (zs := z0.take j) (by rw [List.length_take, Nat.min_eq_left (by rw [← HL.out]; exact hjl')]; exact o2)
    rw [List.length_take, Nat.min_eq_left (by rw [← HL.out]; exact hjl')] at hv2
    subst hv2
    go_wp2_with fail
    go_at_call 19; refine (same_any _ _ (z0.take j) _ r2 (hHT _ hW) hjt).mono ?_; rintro e w5 ⟨rfl, hb⟩
    have hW := below2 hW hb
    go_wp2_with fail
    go_loopw [9, 10, 62] (fun s b i wr => ∃ q : Nat, q ≤ len0 ∧ i = .int .i64 q ∧ b = .bool false ∧ s = .int .i64 (catL (z0.take q)).length ∧ Below w.heap.size w wr) (fun _ _ i _ => len0 - (intOf i).toNat)
    case atStart => exact ⟨0, by omega, rfl, rfl, by simp [catL], hW⟩
    case round =>
      obtain ⟨q, hq, rfl, rfl, rfl, hB⟩ := hrel
      by_cases hlt : q < len0
      · have hqz : q < z0.length := by rw [← HL.out]; exact hlt
        obtain ⟨o, c, e, hcell⟩ := hHas _ hB
        injection e with e1 e2 e3
        subst e1
        obtain ⟨b1, i1, rfl, r1, l1⟩ := hcell q hqz
        have hz4 := HG.out z0[q] (List.getElem_mem hqz)
        have hst := catL_step z0 q hqz
        have hs0 := HC.out q hqz
        have hi2 := HI.out q hqz
        have hpl := putL_le _ hz4
        have HNj : Hid (q + 1 = j → n = (catL (z0.take (q + 1))).length) := fun h => by rw [HN.out, h]
        obtain ⟨s1, hs1⟩ : ∃ s1, s1 = (catL (z0.take (q + 1))).length := ⟨_, rfl⟩
        rw [← hs1] at hst hi2 HNj
        have HS1 : Hid (s1 = (catL (z0.take (q + 1))).length) := hs1
        generalize (catL (z0.take q)).length = s0 at hst hs0 ⊢
        unfold strV at r1
        generalize z0[q] = z at r1 hz4 hst hpl
        have c3 := fun w => size_ok z.length w hz4
        obtain ⟨P, hP⟩ : ∃ P : ByteArray, P = ⟨z.toArray⟩ := ⟨_, rfl⟩
        have hPs : z.length = P.size := by rw [hP, size_list]
        rw [← hP] at r1
        rw [hPs] at c3 hst hz4 hpl
        obtain ⟨T, hT⟩ : ∃ T, T = (putL P.size).length + 4 + P.size := ⟨_, rfl⟩
        rw [← hT] at c3 hst
        have hT9 : T ≤ 4102 := by omega
        have HST : Hid (s1 = s0 + T) := hst
        have hle : s0 + T ≤ k ↔ q < j := by rw [← hst]; exact hi2.symm
        have HNJ : Hid (q + 1 = j → n = s0 + T) := fun h => by rw [← hst]; exact HNj.out h
        clear hP hPs hT hst hi2 HNj hs1 hcell e2 e3
        by_cases hqj : q < j
        · have hle1 : s0 + T ≤ k := hle.2 hqj
          clear hle
          by_cases hq1 : q + 1 = j
          · have e1 := HNJ.out hq1
            have x1 : decide (((s0 : Int) + (T : Int)) ≤ (k : Int)) = true := by simp; omega
            have x2 : decide ((q : Int) < (j : Int)) = true := by simp; omega
            have x3 : ((q : Int) == (j : Int) - 1) = true := by simp; omega
            have x4 : ((n : Int) != (s0 : Int) + (T : Int)) = false := by simp; omega
            clear e1 hq1
            go_wp2_with fail
            go_at_call 10; refine (c3 _).mono ?_; rintro e w6 ⟨rfl, hb⟩
            go_wp2
            go_roundw
            case rel => exact ⟨q + 1, by omega, by go_num, by simp, by rw [← HS1.out, HST.out]; go_num, below2 hB hb⟩
            case measure => simp [intOf]; omega
          · have x1 : decide (((s0 : Int) + (T : Int)) ≤ (k : Int)) = true := by simp; omega
            have x2 : decide ((q : Int) < (j : Int)) = true := by simp; omega
            have x3 : ((q : Int) == (j : Int) - 1) = false := by simp; omega
            go_wp2_with fail
            go_at_call 10; refine (c3 _).mono ?_; rintro e w6 ⟨rfl, hb⟩
            go_wp2
            go_roundw
            case rel => exact ⟨q + 1, by omega, by go_num, by simp, by rw [← HS1.out, HST.out]; go_num, below2 hB hb⟩
            case measure => simp [intOf]; omega
        · have hle1 : ¬ s0 + T ≤ k := fun h => hqj (hle.1 h)
          clear hle
          have x1 : decide (((s0 : Int) + (T : Int)) ≤ (k : Int)) = false := by simp; omega
          have x2 : decide ((q : Int) < (j : Int)) = false := by simp; omega
          have x3 : ((q : Int) == (j : Int) - 1) = false := by simp; omega
          go_wp2_with fail
          go_at_call 10; refine (c3 _).mono ?_; rintro e w6 ⟨rfl, hb⟩
          go_wp2
          go_roundw
          case rel => exact ⟨q + 1, by omega, by go_num, by simp, by rw [← HS1.out, HST.out]; go_num, below2 hB hb⟩
          case measure => simp [intOf]; omega
      · obtain rfl : q = len0 := by omega
        by_cases hj0 : 0 < j
        · go_wp2
          go_ret
          exact ⟨by simp, hB⟩
        · have e0 : j = 0 := by omega
          have e1 : ((n : Int) == 0) = true := by rw [HN.out, e0]; simp [catL]
          clear e0
          go_wp2
          go_ret
          exact ⟨by simp, hB⟩
  · have hf : ∀ w', Below w.heap.size w w' → Calls Try.prog 20 #[.slice a0 len0 cap0] w' fun e w'' => e = .returned (.tuple #[.string ⟨#[]⟩, .bool false]) ∧ Below w'.heap.size w' w'' := fun w' hb =>
      (frames_any a0 len0 cap0 z0 w' (hkeep w' hb)).mono (fun e w'' h => ⟨by rcases h.1 with h | h; exact absurd h.1 hG; exact h.2, h.2⟩)
    clear hlen hlc hcm hkeep hG
    go_enter Try.func6, Try.ntmps6
    go_wp2_with fail
    go_at_call 12; refine (hv _).mono ?_; rintro e w1 ⟨rfl, hW⟩
    go_wp2_with fail
    go_at_call 20; refine (hf _ hW).mono ?_; rintro e w2 ⟨rfl, hb⟩
    have hW := below2 hW hb
    go_wp2_with fail
    go_ret
    exact ⟨rfl, hW⟩

set_option maxRecDepth 100000 in
theorem lifted (os : Os) (started : os.Started) (H : Type) (enc : TypeId × Value → H) :
    ReturnsInHanded {} Try.checked os 6 .any (Rows.frameCutSpec.pre6 enc Try.prog Try.f6 Rows.frameCutRow.domain false) (Rows.frameCutSpec.post enc Try.prog Try.f6 false true false false) := by
  refine returnsInHanded_of_change_sized (C := Try.checked) own started (by kernel_rfl) Try.func6
    (ChangeSpec.witness6 (enc := enc) (C := Try.checked) false ⟨#[], #[.slice none 0 0, .int .i64 0], []⟩ 8 (by kernel_rfl) (by kernel_rfl) (by kernel_rfl) (by kernel_rfl)) ?_
  intro W base args ds gs before hval0 hW _ hsz0 _
  have hsz : (DataW.weightsEach Try.prog (Try.f6.params.toList ++ Rows.frameCutSpec.plain.varTypes Try.prog) (ds ++ gs)).all (· ≤ reachBytes) = true := hsz0
  clear hsz0
  have hval : ∀ (j : Nat) t v, Try.f6.params[j]? = some t → args[j]? = some v → Value.okWide Try.prog W .any base t v := hval0
  have hW' := hW
  obtain ⟨p, q, hA0, hV, rfl, hfz, hnd⟩ := hW
  have hA : DataW.TrodAll enc Try.prog W 0 (fun _ => true) true Try.f6.params.toList args.toList ds p := hA0
  rw [Try.params6] at hA hval hsz
  obtain ⟨v0, vs0, d0, ds0, p0, q0, hargs, rfl, rfl, h0, r0⟩ := trodAll_cons hA
  obtain ⟨v1, vs1, d1, ds1, p1, q1, rfl, rfl, rfl, h1, r1⟩ := trodAll_cons r0
  obtain ⟨rfl, rfl, rfl⟩ := trodAll_nil r1
  obtain rfl : args = #[v0, v1] := by cases args; simp_all
  obtain ⟨rfl, rfl⟩ := trodVars_none hV
  obtain ⟨a0, len0, cap0, rfl⟩ := okWide_slice Try.underlying31 (hval 0 31 v0 rfl rfl)
  have k0 := h0
  have lt0 : ∀ x ∈ p0, x.block < W.heap.size := by obtain ⟨m, hm⟩ := k0; exact DataW.trod_lt m _ _ _ hm
  obtain ⟨z0, b0⟩ : ∃ zs, IsStrs W a0 len0 cap0 zs := by
    obtain ⟨fuel, hf⟩ := h0
    rcases Go.Deep.open_strs Try.underlying31 Try.underlying9 (by kernel_rfl) hf with ⟨hcs, _⟩ | ⟨x, l, c, m, Sx, hcs, _, hl, hm, hmm, _, hr⟩
    · simp [Value.cells] at hcs
      obtain ⟨rfl, rfl, rfl⟩ := hcs
      exact ⟨[], isStrs_nil W⟩
    · simp [Value.cells] at hcs
      obtain ⟨rfl, rfl, rfl⟩ := hcs
      exact ⟨_, isStrs_of hl hm (fun i hi => hr i (by rw [hmm]; split <;> omega))⟩
  obtain ⟨a1, rfl, rfl, rfl, w1⟩ := open_int Try.underlying3 (hval 1 3 v1 rfl rfl) h1
  have b1 : -9223372036854775808 ≤ a1 ∧ a1 ≤ 9223372036854775807 := by simpa [Lit.wf, IntKind.min, IntKind.max, IntKind.signed, IntKind.bits] using w1
  clear hA0 hval0
  refine (walk a0 len0 cap0 z0 a1 W b0 b1).mono fun e W' ⟨he, bel⟩ => ?_
  subst he
  exact ⟨_, rfl, _, _, _, [], _, [], hW', trodAll_mk1 (shut_bool Try.underlying4 _), (trodAll_cons_mk (Below.trod laidOut (by kernel_rfl) (of_decide_eq_true (by kernel_rfl)) k0 bel lt0) (trodAll_cons_mk (shut_int Try.underlying3 w1) trodAll_mk0)), rfl, bel.frame _, fun h => by cases h⟩

theorem over : Rows.frameCutRow.holds Try.pinned (OpenSpec.ofChange Rows.frameCutSpec) :=
  OpenClaim.holds_of_wide 6 Try.f6 rfl rfl rfl rfl rfl rfl rfl ⟨rfl, rfl, rfl, rfl, rfl⟩ rfl rfl rfl rfl rfl (by kernel_rfl) Try.func6 (by kernel_rfl)
    (of_decide_eq_true (by kernel_rfl)) (by unfold Func.isWrapper; first | (rw [if_pos (by decide +kernel)]; kernel_rfl) | (rw [if_neg (by decide +kernel)]; exact ⟨rfl, rfl⟩))
    (fun os started H enc _ => lifted os started H enc)
end frameCut
theorem fcut_holds : Rows.FrameCutSaid := frameCut.over
#print axioms fcut_holds
end Go.Proofs.Ytojgmiobjfkebaa
