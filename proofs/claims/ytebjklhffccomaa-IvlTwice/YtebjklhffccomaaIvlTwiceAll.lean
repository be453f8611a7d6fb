/- For any row of intervals, and any interval: spoorlaw19.IvlTwice returns true, and changes nothing that was there. No condition. -/
import Derived.Test.YtebjklhffccomaaRows
import Derived.Test.YtebjklhffccomaaIvZ1
import Derived.Test.YtebjklhffccomaaIvOpen
import Derived.ProofKit
import Derived.OpenShut
import Derived.ShutString
import Derived.SizedLaws
set_option linter.unusedVariables false
namespace Go.Proofs.Ytebjklhffccomaa
namespace ivlTwice
open Go.ChangeShapes Go.WideShapes Go.ChangeAt Go.RowKit
open Go.ChangeMaps (open_string shut_string)
open Go.Proofs.Ytebjklhffccomaa.Iv
open Go.Proofs.Ytebjklhffccomaa.Lk (HasRow)
open Go.Proofs.Ytebjklhffccomaa.Sp (Sp inB Row rowB row_ext okB okB_iff topN chk)
open Go.Proofs.Ytebjklhffccomaa.Addr (RowAt below2 below_drew below_new bset RowAt.lt RowAt.cell RowAt.frozen RowAt.below RowAt.drew RowAt.new RowAt.alloc cells2 cells4)
theorem own : ownKnob Try.prog.godebug = none := by kernel_rfl
theorem laidOut : laidOutB Try.prog = true := by kernel_rfl
/-- a row cut at two ends has no more spans than it had -/
theorem row_cut {L K : List Sp} {a b : Nat} (hL : Row true L) (hK : Row true K) (h : ∀ x, inB K x = (inB L x && (decide (a ≤ x) && decide (x ≤ b)))) : K.length ≤ L.length := by
  obtain ⟨f, hf⟩ : ∃ f : Sp → Option Sp, f = fun s => if max s.1 a ≤ min s.2 b then some (max s.1 a, min s.2 b) else none := ⟨_, rfl⟩
  have hfs : ∀ s t, f s = some t → t.1 = max s.1 a ∧ t.2 = min s.2 b ∧ max s.1 a ≤ min s.2 b := fun s t e => by
    rw [hf] at e
    simp only at e
    split at e
    · injection e with e; subst e; exact ⟨rfl, rfl, by assumption⟩
    · cases e
  have hrow : Row true (L.filterMap f) := by
    refine ⟨fun t ht => ?_, ?_⟩
    · obtain ⟨s, hs, e⟩ := List.mem_filterMap.1 ht
      obtain ⟨e1, e2, e3⟩ := hfs s t e
      have := Sp.okS_iff.1 (hL.1 s hs)
      exact Sp.okS_iff.2 ⟨by rw [e1, e2]; exact e3, by rw [e2]; omega⟩
    · refine List.Pairwise.filterMap (S := fun r s : Sp => r.2 + 1 < s.1) f (fun s t hst x hx y hy => ?_) hL.2
      obtain ⟨x1, x2, _⟩ := hfs s x hx
      obtain ⟨y1, y2, _⟩ := hfs t y hy
      rw [x2, y1]
      omega
  have hin : ∀ x, inB (L.filterMap f) x = (inB L x && (decide (a ≤ x) && decide (x ≤ b))) := fun x => by
    rw [Bool.eq_iff_iff, Sp.inB_iff, Bool.and_eq_true, Sp.inB_iff, Bool.and_eq_true, decide_eq_true_iff, decide_eq_true_iff]
    constructor
    · rintro ⟨t, ht, p1, p2⟩
      obtain ⟨s, hs, e⟩ := List.mem_filterMap.1 ht
      obtain ⟨e1, e2, _⟩ := hfs s t e
      rw [e1] at p1
      rw [e2] at p2
      exact ⟨⟨s, hs, by omega, by omega⟩, by omega, by omega⟩
    · rintro ⟨⟨s, hs, p1, p2⟩, p3, p4⟩
      have hm : max s.1 a ≤ min s.2 b := by omega
      refine ⟨(max s.1 a, min s.2 b), List.mem_filterMap.2 ⟨s, hs, by rw [hf]; simp only; rw [if_pos hm]⟩, ?_, ?_⟩
      · show max s.1 a ≤ x; omega
      · show x ≤ min s.2 b; omega
  have e : K = L.filterMap f := row_ext hK hrow (fun x => by rw [h, hin])
  rw [e]
  exact List.length_filterMap_le f L
theorem in_wi (wi : Iv) (x : Nat) : inB ([wi].map toS) x = (decide (wi.1.toNat ≤ x) && decide (x ≤ wi.2.toNat)) := by
  rw [Bool.eq_iff_iff, Sp.inB_iff]
  simp only [List.map_cons, List.map_nil, List.mem_singleton, exists_eq_left, Bool.and_eq_true, decide_eq_true_eq]
  exact Iff.rfl
/-- where the first answer is a row, all are, and they are as the law says -/
theorem facts {l : List Iv} {wi : Iv} {N K A M : List Sp} {y2 y3 y4 : Int} (h1 : SetI (okJ l && okI wi) (notM l wi) (l.length + 1) N 0) (h2 : SetI (okJ (N.map ofS) && okI wi) (notM (N.map ofS) wi) ((N.map ofS).length + 1) K y2) (h3 : SetI (okJ l && okJ [wi]) (fun x => inB (l.map toS) x && inB ([wi].map toS) x) (l.length + [wi].length) A y3) (h4 : MkI l M y4) :
    y2 = 0 ∧ y3 = 0 ∧ y4 = 0 ∧ K = A ∧ M.map ofS = l := by
  cases hok : (okJ l && okI wi)
  · rw [hok] at h1
    have := (h1.1 rfl).1
    omega
  · obtain ⟨hl, hw⟩ := (Bool.and_eq_true _ _).mp hok
    rw [hok] at h1
    have hll := okJ_len hl
    have hlr := okJ_row hl
    rcases h1.2 rfl with ⟨_, rN, tN, mN, lN, _⟩ | ⟨e, _⟩
    · rw [okJ_of rN tN lN, hw] at h2
      rw [hl, row_one hw] at h3
      have cutK : ∀ x, notM (N.map ofS) wi x = (inB (l.map toS) x && (decide (wi.1.toNat ≤ x) && decide (x ≤ wi.2.toNat))) := fun x => by
        unfold Iv.notM
        rw [map_to_of, mN]
        unfold Iv.notM
        cases decide (wi.1.toNat ≤ x) <;> cases decide (x ≤ wi.2.toNat) <;> cases inB (l.map toS) x <;> rfl
      have cutA : ∀ x, (inB (l.map toS) x && inB ([wi].map toS) x) = (inB (l.map toS) x && (decide (wi.1.toNat ≤ x) && decide (x ≤ wi.2.toNat))) := fun x => by rw [in_wi]
      have hm4 : y4 = 0 ∧ M.map ofS = l := by
        rcases h4 with ⟨e, _⟩ | ⟨_, e, _⟩ | ⟨_, _, e, rM, _, _, mM⟩
        · omega
        · rw [okJ_all hl] at e; cases e
        · refine ⟨e, ?_⟩
          rw [row_ext rM hlr mM, map_of_to (okJ_all hl)]
      rcases h2.2 rfl with ⟨e2, rK, _, mK, _⟩ | ⟨_, _, L, rL, mL, lL, _⟩
      · rcases h3.2 rfl with ⟨e3, rA, _, mA, _⟩ | ⟨_, _, L, rL, mL, lL, _⟩
        · exact ⟨e2, e3, hm4.1, row_ext rK rA (fun x => by rw [mK, mA, cutK]; exact (cutA x).symm), hm4.2⟩
        · have := row_cut hlr rL (fun x => (mL x).trans (cutA x))
          rw [List.length_map] at this
          omega
      · have := row_cut hlr rL (fun x => (mL x).trans (cutK x))
        rw [List.length_map] at this
        omega
    · omega
set_option maxHeartbeats 16000000 in
set_option maxRecDepth 20000 in
theorem walk (v : Value) (l : List Iv) (wi : Iv) (w : World) (b1 : HasI w v l) (f1 : ∀ s ∈ l, FitI s) (b3 : FitI wi) :
    Calls Try.prog 7 #[v, ivV wi] w fun e w' => e = .returned (.bool true) ∧ Below w.heap.size w w' := by
  have c0 := fun (W : World) => lives_any W
  obtain ⟨o1, p1, rfl, _, _⟩ := HasRow.slice b1
  obtain ⟨X0, hX0⟩ : ∃ X, X = w.alloc (.cells #[.int .i64 wi.1, .int .i64 wi.2] 36) := ⟨_, rfl⟩
  have hB : Below w.heap.size w X0 := by rw [hX0]; exact below_new (Below.refl _ _) _
  have rp : RowAt X0 w.heap.size [.int .i64 wi.1, .int .i64 wi.2] 36 := by rw [hX0]; exact RowAt.new _ _ _
  replace b1 := b1.keep hB
  unfold ivV
  go_enter Try.func7, Try.ntmps7
  go_upto_region 1 with fail
  rw [← hX0]
  clear hX0
  go_wp2_with fail
  go_at_call 10; refine (c0 _).mono ?_; rintro e w1 ⟨rfl, hb⟩
  replace hB := below2 hB hb
  replace rp := rp.below hb
  replace b1 := b1.keep hb
  clear hb c0
  obtain ⟨x0, x1, xf⟩ := cells2 rp
  have cs := notI_any l wi _ w1 b1
  go_wp2_with fail
  go_at_call 24; refine (cs).mono ?_; rintro e w2 hS
  obtain ⟨uN, N, y1, rfl, hrN, hb, hPN⟩ := hS
  replace hB := below2 hB hb
  replace rp := rp.below hb
  replace b1 := b1.keep hb
  clear hb cs x0 x1 xf
  obtain ⟨oN, cN, eN, _, _⟩ := HasRow.slice hrN
  subst eN
  rw [List.length_map] at hrN
  obtain ⟨x0, x1, xf⟩ := cells2 rp
  have cs := notI_any (N.map ofS) wi _ w2 hrN
  go_wp2_with fail
  go_at_call 24; refine (cs).mono ?_; rintro e w3 hS
  obtain ⟨uK, K, y2, rfl, hrK, hb, hPK⟩ := hS
  replace hB := below2 hB hb
  replace rp := rp.below hb
  replace b1 := b1.keep hb
  replace hrN := hrN.keep hb
  clear hb cs x0 x1 xf
  obtain ⟨oK, cK, eK, _, _⟩ := HasRow.slice hrK
  subst eK
  rw [List.length_map] at hrK
  obtain ⟨w4, hw4⟩ : ∃ W, W = w3.alloc (.cells #[.int .i64 wi.1, .int .i64 wi.2] 36) := ⟨_, rfl⟩
  have hb : Below w3.heap.size w3 w4 := by rw [hw4]; exact below_new (Below.refl _ _) _
  have hrW : HasI w4 (.slice (some ⟨w3.heap.size, 0, none⟩) 1 1) [wi] := by rw [hw4]; exact litI w3 wi 36
  obtain ⟨x0, x1, xf⟩ := cells2 rp
  replace b1 := b1.keep hb
  have cs := andI_any l [wi] _ _ w4 b1 hrW
  go_wp2_with fail
  rw [← hw4]
  clear hw4
  replace hB := below2 hB hb
  replace rp := rp.below hb
  replace hrK := hrK.keep hb
  clear hb
  go_at_call 22; refine (cs).mono ?_; rintro e w5 hS
  obtain ⟨uA, A, y3, rfl, hrA, hb, hPA⟩ := hS
  replace hB := below2 hB hb
  replace rp := rp.below hb
  replace b1 := b1.keep hb
  replace hrK := hrK.keep hb
  clear hb cs x0 x1 xf hrW rp
  obtain ⟨oA, cA, eA, _, _⟩ := HasRow.slice hrA
  subst eA
  rw [List.length_map] at hrA
  have cs := makeI_any l _ w5 b1
  go_wp2_with fail
  go_at_call 11; refine (cs).mono ?_; rintro e w6 hS
  obtain ⟨uM, M, y4, rfl, hrM, hb, hPM⟩ := hS
  replace hB := below2 hB hb
  replace b1 := b1.keep hb
  replace hrK := hrK.keep hb
  replace hrA := hrA.keep hb
  clear hb cs
  obtain ⟨oM, cM, eM, _, _⟩ := HasRow.slice hrM
  subst eM
  rw [List.length_map] at hrM
  by_cases hy : y1 = 0
  · subst hy
    obtain ⟨e2, e3, e4, eK, eM⟩ := facts hPN hPK hPA hPM
    subst e2 e3 e4 eK
    clear hPN hPK hPA hPM f1 b3
    have cs1 := fun (W : World) (h1 : HasI W (.slice oK K.length cK) (K.map ofS)) (h2 : HasI W (.slice oA K.length cA) (K.map ofS)) => same_any (K.map ofS) _ _ W h1 h2
    rw [eM] at hrM
    have eL : M.length = l.length := by rw [← eM, List.length_map]
    have eL2 : (M.map ofS).length = l.length := by rw [eM]
    rw [eL] at hrM
    rw [eL2]
    clear eM eL eL2
    go_wp2_with fail
    go_at_call 17; refine (cs1 _ hrK hrA).mono ?_; rintro e w7 ⟨rfl, hb⟩
    replace hB := below2 hB hb
    replace hrM := hrM.keep hb
    replace b1 := b1.keep hb
    clear hb cs1 hrK hrA
    have cs2 := same_any l _ _ w7 hrM b1
    go_wp2_with fail
    go_at_call 17; refine (cs2).mono ?_; rintro e w8 ⟨rfl, hb⟩
    replace hB := below2 hB hb
    clear hb cs2
    go_wp2_with fail
    go_ret
    exact ⟨rfl, hB⟩
  · have hn1 : (y1 != 0) = true := bne_iff_ne.2 hy
    clear hPN hPK hPA hPM f1 b3 b1 hrK hrA hrM
    go_wp2_with fail
    go_ret
    exact ⟨rfl, hB⟩
set_option maxRecDepth 100000 in
theorem lifted (os : Os) (started : os.Started) (H : Type) (enc : TypeId × Value → H) :
    ReturnsInHanded {} Try.checked os 7 .any (Rows.ivlTwiceSpec.pre6 enc Try.prog Try.f7 Rows.ivlTwiceRow.domain false) (Rows.ivlTwiceSpec.post enc Try.prog Try.f7 false true false false) := by
  refine returnsInHanded_of_change_sized (C := Try.checked) own started (by kernel_rfl) Try.func7
    (ChangeSpec.witness6 (enc := enc) (C := Try.checked) false ⟨#[], #[.slice none 0 0, .agg #[.int .i64 0, .int .i64 0]], []⟩ 8 (by kernel_rfl) (by kernel_rfl) (by kernel_rfl) (by kernel_rfl)) ?_
  intro W base args ds gs before hval0 hW _ hsz0 _
  have hsz : (DataW.weightsEach Try.prog (Try.f7.params.toList ++ Rows.ivlTwiceSpec.plain.varTypes Try.prog) (ds ++ gs)).all (· ≤ reachBytes) = true := hsz0
  clear hsz0
  have hval : ∀ (j : Nat) t v, Try.f7.params[j]? = some t → args[j]? = some v → Value.okWide Try.prog W .any base t v := hval0
  have hW' := hW
  obtain ⟨p, q, hA0, hV, rfl, hfz, hnd⟩ := hW
  have hA : DataW.TrodAll enc Try.prog W 0 (fun _ => true) true Try.f7.params.toList args.toList ds p := hA0
  rw [Try.params7] at hA hval hsz
  obtain ⟨v0, vs0, d0, ds0, p0, q0, hargs, rfl, rfl, h0, r0⟩ := trodAll_cons hA
  obtain ⟨v1, vs1, d1, ds1, p1, q1, rfl, rfl, rfl, h1, r1⟩ := trodAll_cons r0
  obtain ⟨rfl, rfl, rfl⟩ := trodAll_nil r1
  obtain rfl : args = #[v0, v1] := by cases args; simp_all
  obtain ⟨rfl, rfl⟩ := trodVars_none hV
  obtain ⟨a0, len0, cap0, rfl⟩ := okWide_slice Try.underlying22 (hval 0 22 v0 rfl rfl)
  have k0 := h0
  have lt0 : ∀ x ∈ p0, x.block < W.heap.size := by obtain ⟨m, hm⟩ := k0; exact DataW.trod_lt m _ _ _ hm
  obtain ⟨fuel0, hf0⟩ := h0
  obtain ⟨z0, b0, f0⟩ := Iv.open_ivs hf0
  have k1 := h1
  have lt1 : ∀ x ∈ p1, x.block < W.heap.size := by obtain ⟨m, hm⟩ := k1; exact DataW.trod_lt m _ _ _ hm
  obtain ⟨n1, rfl, b1⟩ := Iv.open_ivl (hval 1 36 v1 rfl rfl) h1
  clear hA0 hval0
  refine (walk (.slice a0 len0 cap0) z0 n1 W b0 f0 b1).mono fun e W' ⟨he, bel⟩ => ?_
  subst he
  exact ⟨_, rfl, _, _, _, [], _, [], hW', trodAll_mk1 (shut_bool Try.underlying4 _), (trodAll_cons_mk (Below.trod laidOut (by kernel_rfl) (of_decide_eq_true (by kernel_rfl)) k0 bel lt0) (trodAll_cons_mk (Below.trod laidOut (by kernel_rfl) (of_decide_eq_true (by kernel_rfl)) k1 bel lt1) trodAll_mk0)), rfl, bel.frame _, fun h => by cases h⟩

theorem over : Rows.ivlTwiceRow.holds Try.pinned (OpenSpec.ofChange Rows.ivlTwiceSpec) :=
  OpenClaim.holds_of_wide 7 Try.f7 rfl rfl rfl rfl rfl rfl rfl ⟨rfl, rfl, rfl, rfl, rfl⟩ rfl rfl rfl rfl rfl (by kernel_rfl) Try.func7 (by kernel_rfl)
    (of_decide_eq_true (by kernel_rfl)) (by unfold Func.isWrapper; first | (rw [if_pos (by decide +kernel)]; kernel_rfl) | (rw [if_neg (by decide +kernel)]; exact ⟨rfl, rfl⟩))
    (fun os started H enc _ => lifted os started H enc)
end ivlTwice
theorem ivl_twice_holds : Rows.IvlTwiceSaid := ivlTwice.over
#print axioms ivl_twice_holds
end Go.Proofs.Ytebjklhffccomaa
