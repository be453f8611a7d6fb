/- What Make, Or, And and Not answer, of the program and of the document, said so that two answers are the same. -/
import Derived.Test.YtiemlaehhmlhmaaLkClone
import Derived.Lib.Overlaps
import Derived.Lib.AppendZerosOnto
import Derived.Lib.SlBuf
import Derived.Test.YtiemlaehhmlhmaaCtComp
import Derived.Test.YtiemlaehhmlhmaaSpRZ
import Derived.BigQuiet
import Derived.Test.YtiemlaehhmlhmaaSpField2
import Derived.Test.YtiemlaehhmlhmaaSpChk
import Derived.Test.YtiemlaehhmlhmaaSpHas
import Derived.Test.YtiemlaehhmlhmaaSpMath
import Derived.Test.YtiemlaehhmlhmaaSpOrF
import Derived.Test.YtiemlaehhmlhmaaCtBase
import Derived.Test.YtiemlaehhmlhmaaSpTop
import Derived.Test.YtiemlaehhmlhmaaSpTop2
import Derived.Test.YtiemlaehhmlhmaaSpTop3
set_option linter.unusedVariables false
namespace Go.Proofs.Ytiemlaehhmlhmaa.Lk
open Go.RowKit
/-- copy, as one step of a region whose order is drawn -/
theorem copy_step {ops : Array Oper} {o : Oper} {a : Act} {w : World} {K : Act → World → Prop} {Q : Exit → Act → World → Prop} {E : Prop} (hg : o.guard = none) (d s : Operand) (t t' : TypeId)
    (ho : o.op = .call { callee := .builtin .copy, args := #[d, s], argTypes := #[t, t'] }) {v u : Value} (hd : a.eval d = v) (hs : a.eval s = u) {v' : Value} {w' : World}
    (hr : (Builtin.copy_ #[t, t'] o.type #[v, u]).run Try.prog w = .ok v' w') (hK : K (a.put o.dst v') w') : if Region.wanted o (yielded ops a.tmps) = true then Oper.wp Try.prog o a w K Q else E := by
  rw [if_pos (by simp [Region.wanted, hg])]
  simp [Oper.wp, execOp, ho, resolve, invoke, builtin, hd, hs, hr, Result.andThen]
  exact hK
/-- a row that is copied into a row that is owned -/
theorem own_copy {e sz : Nat} {dT : TypeId} (hu : Try.prog.underlying dT = some (.slice e)) (hs : (Try.prog.info? e).map (·.size) = some sz) {W : World} {B g n cap : Nat} {xs : List Value} (h : W.ownsRow B e sz (.slice (some ⟨g, 0, none⟩) n cap) n xs)
    (o dLen dCap : Nat) (a : Addr) (sLen sCap k : Nat) (cs : List Value) (hk : Nat.min sLen dLen = k) (hl : cs.length = k * sz) (hok : o * sz + k * sz ≤ n * sz) (hsrc : ∀ j v, cs[j]? = some v → W.cell? (a.add j) = some v) (h1 : ∀ v ∈ cs, v.oneCell' = true) :
    ∃ W', (∀ sT ty, (Builtin.copy_ #[dT, sT] ty #[.slice (some ⟨g, o * sz, none⟩) dLen dCap, .slice (some a) sLen sCap]).run Try.prog W = .ok (goInt k) W') ∧ W'.ownsRow B e sz (.slice (some ⟨g, 0, none⟩) n cap) n (xs.take (o * sz) ++ cs ++ xs.drop (o * sz + k * sz)) ∧ W.grownBy W' (some g) := by
  rcases h.2 with ⟨e0, _⟩ | ⟨g', cap', cur, e1, hg, hgb, hnc, hcm, hcs, htk⟩
  · cases e0
  · injection e1 with e1 _ e3
    injection e1 with e1
    injection e1 with e1
    subst e1 e3
    have hnn : n * sz ≤ cur.size := by rw [hcs]; exact Nat.mul_le_mul_right _ hnc
    have hld := run_loadCells_list (P := Try.prog) W a cs hsrc
    have hst := run_storeCells_at Try.prog g (o * sz) e cs 0 cur W hgb (by omega) h1
    refine ⟨W.setRow g (cur.toList.take (o * sz) ++ cs ++ cur.toList.drop (o * sz + cs.length)).toArray, fun sT ty => ?_, ?_, ?_⟩
    · cases hq : Try.prog.info? e with
      | none => simp [hq] at hs
      | some i =>
        have hi : i.size = sz := by simpa [hq] using hs
        rw [hl] at hld
        simp only [Nat.add_zero] at hst
        simp [Builtin.copy_, run_underlying hu, Builtin.lenOf, Builtin.firstCells, sizeOf, typeInfo, hq, hi, hk, hld, hst]
    · refine ⟨?_, .inr ⟨g, cap, _, rfl, hg, setRow_heap W g cur _ e _ hgb, hnc, hcm, ?_, ?_⟩⟩
      · have := h.1
        simp only [List.length_append, List.length_take, List.length_drop]
        omega
      · simp only [List.size_toArray, List.length_append, List.length_take, List.length_drop, Array.length_toList]
        omega
      · rw [← htk]
        simp only [List.take_append, List.length_append, List.length_take, Array.length_toList, List.take_take, List.drop_take]
        rw [Nat.min_eq_left (show o * sz ≤ cur.size by omega), Nat.min_eq_right (show o * sz ≤ n * sz by omega), Nat.min_eq_left (show o * sz ≤ n * sz by omega), List.take_of_length_le (show cs.length ≤ n * sz - o * sz by omega), hl]
    · exact ⟨rfl, rfl, rfl, by simp [World.setRow], fun k _ hk => by simp only [World.setRow]; rw [Array.getElem?_modify]; split; (rename_i h0; exact absurd (by rw [h0]) hk); rfl⟩
end Go.Proofs.Ytiemlaehhmlhmaa.Lk
namespace Go.Proofs.Ytiemlaehhmlhmaa.Ct
open Go.RowKit
open Go.Proofs.Ytiemlaehhmlhmaa.Addr (hiN loN adV RowAt below2 below_drew below_new bset RowAt.lt RowAt.cell RowAt.frozen RowAt.below RowAt.drew RowAt.new RowAt.alloc cells2 RowAt.gkeep)
open Go.Proofs.Ytiemlaehhmlhmaa.Lk (hasRow_own append_row own_copy addr_add)
attribute [-go_sem] Builtin.append_
theorem size_ad : (Try.prog.info? 25).map (·.size) = some 2 := by kernel_rfl
theorem lit_one (W : World) (a : Nat) : HasAds (W.alloc (.cells #[.int .u64 (hiN a : Int), .int .u64 (loN a : Int)] 25)) (.slice (some ⟨W.heap.size, 0, none⟩) 1 1) [a] :=
  hasRow_own (World.ownsRow_lit (base := W.heap.size) W #[.int .u64 (hiN a : Int), .int .u64 (loN a : Int)] 1 (Nat.le_refl _) (by decide) rfl)
theorem insN_at {o : List Nat} (hu : Up o) (p i : Nat) (hi : i ≤ o.length) (h1 : ∀ j (h : j < o.length), i ≤ j → p < o[j]) (h2 : ∀ j (h : j < o.length), j < i → o[j] < p) : insN o p = o.take i ++ p :: o.drop i := by
  have hd : ∀ x ∈ o.drop i, p < x := fun x hx => by
    obtain ⟨j, hj, rfl⟩ := List.getElem_of_mem hx
    rw [List.length_drop] at hj
    rw [List.getElem_drop]
    exact h1 _ (by omega) (by omega)
  have ht : ∀ x ∈ o.take i, x < p := fun x hx => by
    obtain ⟨j, hj, rfl⟩ := List.getElem_of_mem hx
    rw [List.length_take] at hj
    rw [List.getElem_take]
    exact h2 _ (by omega) (by omega)
  refine ext_up _ _ (up_insN hu p) ?_ (fun z => ?_)
  · refine List.pairwise_append.2 ⟨hu.sublist (List.take_sublist _ _), List.pairwise_cons.2 ⟨hd, hu.sublist (List.drop_sublist _ _)⟩, fun a ha b hb => ?_⟩
    rcases List.mem_cons.1 hb with rfl | hb
    · exact ht a ha
    · exact Nat.lt_trans (ht a ha) (hd b hb)
  · rw [mem_insN]
    conv => lhs; rw [show (z ∈ o) = (z ∈ o.take i ++ o.drop i) by rw [List.take_append_drop]]
    simp only [List.mem_append, List.mem_cons]
    constructor
    · rintro (h | h | h)
      · exact .inr (.inl h)
      · exact .inl h
      · exact .inr (.inr h)
    · rintro (h | h | h)
      · exact .inr (.inl h)
      · exact .inl h
      · exact .inr (.inr h)
theorem insN_in {o : List Nat} (hu : Up o) {p : Nat} (h : p ∈ o) : insN o p = o := ext_up _ _ (up_insN hu p) hu (fun z => by
  rw [mem_insN]
  exact ⟨fun hz => by rcases hz with rfl | hz; exact h; exact hz, fun hz => .inr hz⟩)
theorem sortN_snoc (l : List Nat) (k : Nat) (h : k < l.length) : sortN (l.take (k + 1)) = insN (sortN (l.take k)) l[k] := by
  unfold sortN
  rw [List.take_succ_eq_append_getElem h, List.foldl_append]
  rfl
theorem sortN_len (l : List Nat) : (sortN l).length ≤ l.length := by
  have key : ∀ (m l : List Nat), Up m → (∀ x ∈ m, x ∈ l) → m.length ≤ l.length := by
    intro m
    induction m with
    | nil => intro l _ _; exact Nat.zero_le _
    | cons y m ih =>
      intro l hu h
      have hp := List.pairwise_cons.1 hu
      have hy := h y List.mem_cons_self
      have h1 := ih (l.erase y) hp.2 (fun x hx => (List.mem_erase_of_ne (by have := hp.1 x hx; omega)).2 (h x (List.mem_cons_of_mem _ hx)))
      have h2 := List.length_erase_of_mem hy
      have h3 := List.length_pos_of_mem hy
      rw [List.length_cons]
      omega
  exact key _ _ (up_sortN l) (fun x hx => (mem_sortN _ _).1 hx)
/-- what becomes of the row: one more at its end, the rest moved, and the new one put -/
theorem put_ads {w0 W : World} {B : Nat} {u : Value} {O : List Nat} (p : Nat) (i : Nat) (hi : i ≤ O.length) (ho : W.ownsRow B 25 2 u O.length (adCs O)) (hB : B ≤ W.heap.size) (hb0 : Below B w0 W) (hO : O.length ≤ 1000000) (hnil : O.length = 0 → u = .slice none 0 0) :
    ∃ g cap W2 W3, (∀ ty, (Builtin.append_ #[97, 97] ty #[u, .slice (some ⟨W.heap.size, 0, none⟩) 1 1]).run Try.prog (W.alloc (.cells #[.int .u64 0, .int .u64 0] 25)) = .ok (.slice (some ⟨g, 0, none⟩) (O.length + 1) cap) W2) ∧ O.length + 1 ≤ cap ∧ cap ≤ 9223372036854775807 ∧
      (∀ sT ty o0, (i < O.length → o0 = (i + 1) * 2) → (Builtin.copy_ #[97, sT] ty #[.slice (some ⟨g, o0, none⟩) (O.length + 1 - (i + 1)) (cap - (i + 1)), .slice (some ⟨g, i * 2, none⟩) (O.length + 1 - i) (cap - i)]).run Try.prog W2.drew = .ok (goInt (O.length - i : Nat)) W3) ∧
      (∃ z0 z1, W3.cell? ⟨g, i * 2, none⟩ = some z0 ∧ W3.cell? ⟨g, i * 2 + 1, none⟩ = some z1) ∧ (∀ j, W3.frozen? ⟨g, j, none⟩ = false) ∧ ((W3.setCell ⟨g, i * 2, none⟩ (.int .u64 (hiN p : Int))).setCell ⟨g, i * 2 + 1, none⟩ (.int .u64 (loN p : Int))).ownsRow B 25 2 (.slice (some ⟨g, 0, none⟩) (O.length + 1) cap) (O.length + 1) (adCs (O.take i ++ p :: O.drop i)) ∧
      B ≤ g ∧ Below B w0 W3 ∧ B ≤ W3.heap.size ∧ (∀ t x y e, RowAt W t [x, y] e → u.ownBlock ≠ some t → RowAt W3 t [x, y] e ∧ t ≠ g) := by
  obtain ⟨V, hV⟩ : ∃ V, V = W.alloc (.cells #[.int .u64 0, .int .u64 0] 25) := ⟨_, rfl⟩
  have hbN : Below W.heap.size W V := by rw [hV]; exact below_new (Below.refl _ _) _
  have hlit : HasAds V (.slice (some ⟨W.heap.size, 0, none⟩) 1 1) [0] := by rw [hV]; exact lit_one W 0
  have hB1 : B ≤ V.heap.size := Nat.le_trans hB hbN.size
  have hl1 := adCs_len O
  obtain ⟨g, cap, W2, hrun, h1, h2, hnc, hcm, hgb, hne⟩ : ∃ g cap W2, (∀ ty, (Builtin.append_ #[97, 97] ty #[u, .slice (some ⟨W.heap.size, 0, none⟩) 1 1]).run Try.prog V = .ok (.slice (some ⟨g, 0, none⟩) (O.length + 1) cap) W2) ∧ W2.ownsRow B 25 2 (.slice (some ⟨g, 0, none⟩) (O.length + 1) cap) (O.length + 1) (adCs O ++ adCs [0]) ∧ V.grownBy W2 u.ownBlock ∧ O.length + 1 ≤ cap ∧ cap ≤ 9223372036854775807 ∧ B ≤ g ∧ (∀ t x y e, RowAt W2 t [x, y] e → t < V.heap.size → t ≠ g) := by
    by_cases h0 : O.length = 0
    · have hu := hnil h0
      have hO0 : O = [] := List.eq_nil_of_length_eq_zero h0
      subst hu hO0
      obtain ⟨v', W2, hrun, h1, h2⟩ := append_row info_ad Try.underlying97 rfl (by decide) (World.ownsRow_nil V V.heap.size 25 2) hlit (one_ads [0]) (by decide) (by decide) (Nat.le_refl _)
      rcases h1.2 with ⟨_, h0⟩ | ⟨g, cap, cur, rfl, hgb, hgc, hnc, hcm, hcs, htk⟩
      · exact absurd h0 (by decide)
      · refine ⟨g, cap, W2, hrun, ⟨h1.1, .inr ⟨g, cap, cur, rfl, Nat.le_trans hB1 hgb, hgc, hnc, hcm, hcs, htk⟩⟩, h2, hnc, by unfold maxLen at hcm; exact hcm, Nat.le_trans hB1 hgb, fun t x y e _ ht => by omega⟩
    · obtain ⟨v', W2, hrun, h1, h2⟩ := append_row info_ad Try.underlying97 rfl (by decide) (own_below ho hbN) hlit (one_ads [0]) (by simp only [List.length_cons, List.length_nil]; omega) (by simp only [List.length_cons, List.length_nil]; omega) hB1
      simp only [List.length_cons, List.length_nil, Nat.zero_add] at h1
      rcases h1.2 with ⟨_, h0⟩ | ⟨g, cap, cur, rfl, hgb, hgc, hnc, hcm, hcs, htk⟩
      · omega
      · refine ⟨g, cap, W2, hrun, h1, h2, hnc, by unfold maxLen at hcm; exact hcm, hgb, fun t x y e hr _ h => ?_⟩
        subst h
        have h3 : W2.heap[t]? = some (.cells [x, y].toArray e (0, 0)) := hr
        rw [hgc] at h3
        injection h3 with h3
        injection h3 with h4 h5
        rw [h4] at hcs
        simp only [List.size_toArray, List.length_cons, List.length_nil] at hcs
        omega
  rw [hV] at hrun
  have hb2 : Below B w0 W2 := (hb0.trans (Below.mono hbN hB)).grown h2 hB1 (fun k e => (ho.lt k e).1)
  have hB2 : B ≤ W2.heap.size := Nat.le_trans hB1 h2.size
  have htt : ∀ t x y e, RowAt W t [x, y] e → u.ownBlock ≠ some t → RowAt W2 t [x, y] e ∧ t ≠ g := fun t x y e hr hne2 => by
    have hr2 : RowAt W2 t [x, y] e := RowAt.gkeep (hr.below hbN) h2 (fun h => hne2 h.symm)
    exact ⟨hr2, hne t x y e hr2 (Nat.lt_of_lt_of_le hr.lt hbN.size)⟩
  obtain ⟨W3, hr3, h3, h4⟩ : ∃ W3, (∀ sT ty o0, (i < O.length → o0 = (i + 1) * 2) → (Builtin.copy_ #[97, sT] ty #[.slice (some ⟨g, o0, none⟩) (O.length + 1 - (i + 1)) (cap - (i + 1)), .slice (some ⟨g, i * 2, none⟩) (O.length + 1 - i) (cap - i)]).run Try.prog W2.drew = .ok (goInt (O.length - i : Nat)) W3) ∧ W3.ownsRow B 25 2 (.slice (some ⟨g, 0, none⟩) (O.length + 1) cap) (O.length + 1) ((adCs O ++ adCs [0]).take ((i + 1) * 2) ++ (adCs O).drop (i * 2)) ∧ W2.drew.grownBy W3 (some g) := by
    have hl2 : (adCs O ++ adCs [0]).length = (O.length + 1) * 2 := by rw [List.length_append, hl1]; show _ + 2 = _; omega
    have hsrc : ∀ j v, ((adCs O).drop (i * 2))[j]? = some v → W2.drew.cell? ((⟨g, i * 2, none⟩ : Addr).add j) = some v := fun j v hj => by
      have hjl := (List.getElem?_eq_some_iff.1 hj).1
      rw [List.length_drop, hl1] at hjl
      rw [addr_add, show W2.drew.cell? ⟨g, i * 2 + j, none⟩ = W2.cell? ⟨g, i * 2 + j, none⟩ from rfl, h1.cellAt _ (by omega), List.getElem?_append_left (by omega), ← List.getElem?_drop]
      exact hj
    have h1d : W2.drew.ownsRow B 25 2 (.slice (some ⟨g, 0, none⟩) (O.length + 1) cap) (O.length + 1) (adCs O ++ adCs [0]) := h1
    have h1c : ∀ v ∈ (adCs O).drop (i * 2), v.oneCell' = true := fun v hv => one_ads O v (List.mem_of_mem_drop hv)
    by_cases hio : i < O.length
    · obtain ⟨W3, r1, r2, r3⟩ := own_copy Try.underlying97 size_ad h1d (i + 1) (O.length + 1 - (i + 1)) (cap - (i + 1)) ⟨g, i * 2, none⟩ (O.length + 1 - i) (cap - i) (O.length - i) ((adCs O).drop (i * 2)) (by simp only [Nat.min_def]; split <;> omega) (by rw [List.length_drop, hl1]; omega) (by omega) hsrc h1c
      refine ⟨W3, fun sT ty o0 h0 => ?_, ?_, r3⟩
      · rw [h0 hio]
        exact r1 sT ty
      · rw [List.drop_of_length_le (l := adCs O ++ adCs [0]) (by omega), List.append_nil] at r2
        exact r2
    · have hie : i = O.length := by omega
      refine ⟨W2.drew, fun sT ty o0 _ => ?_, ?_, ⟨rfl, rfl, rfl, Nat.le_refl _, fun _ _ _ => rfl⟩⟩
      · obtain ⟨i0, hi0, hz0, hz1, hz2⟩ := info_parts info_ad
        have hm1 : O.length - i = 0 := by omega
        have hld : (loadCells ⟨g, i * 2, none⟩ 0).run Try.prog W2.drew = .ok #[] W2.drew := by simpa using run_loadCells_list (P := Try.prog) W2.drew ⟨g, i * 2, none⟩ [] (by simp)
        simp [Builtin.copy_, run_underlying Try.underlying97, Builtin.lenOf, Builtin.firstCells, sizeOf, typeInfo, hi0, hm1, hld, storeCells]
      · rw [List.take_of_length_le (by omega), List.drop_of_length_le (by omega), List.append_nil]
        exact h1d
  have h5 := h3.stored (i * 2) (.int .u64 (hiN p : Int))
  have h6 := h5.1.stored (i * 2 + 1) (.int .u64 (loN p : Int))
  have hfin : (((adCs O ++ adCs [0]).take ((i + 1) * 2) ++ (adCs O).drop (i * 2)).set (i * 2) (.int .u64 (hiN p : Int))).set (i * 2 + 1) (.int .u64 (loN p : Int)) = adCs (O.take i ++ p :: O.drop i) := by
    have e0 : (adCs O ++ adCs [0]).take ((i + 1) * 2) = adCs ((O ++ [0]).take (i + 1)) := by rw [← adCs_app, adCs_take]
    rw [e0, adCs_drop, ← adCs_app, adCs_set _ p i (by simp only [List.length_append, List.length_take, List.length_cons, List.length_nil, List.length_drop]; omega)]
    congr 1
    have e1 : (O ++ [0]).take (i + 1) = O.take i ++ ((O ++ [0]).drop i).take 1 := by
      rw [List.take_add, List.take_append_of_le_length (by omega)]
    have e2 : (((O ++ [0]).drop i).take 1).length = 1 := by rw [List.length_take, List.length_drop, List.length_append]; simp; omega
    obtain ⟨z, hz⟩ : ∃ z, ((O ++ [0]).drop i).take 1 = [z] := List.length_eq_one_iff.1 e2
    rw [e1, hz, List.append_assoc, List.set_append_right _ _ (by rw [List.length_take]; omega), List.length_take, Nat.min_eq_left (by omega), Nat.sub_self, List.singleton_append, List.set_cons_zero]
  rw [hfin] at h6
  refine ⟨g, cap, W2, W3, hrun, hnc, hcm, hr3, ?_, fun j => h3.frozenAt j, h6.1, hgb, ?_, ?_, fun t x y e h7 h8 => ?_⟩
  · have k0 := h3.cellAt (i * 2) (by omega)
    have k1 := h3.cellAt (i * 2 + 1) (by omega)
    exact ⟨_, _, k0.trans (List.getElem?_eq_getElem (by rw [h3.1]; omega)), k1.trans (List.getElem?_eq_getElem (by rw [h3.1]; omega))⟩
  · exact (below_drew hb2).grown h4 hB2 (fun k e => by injection e with e; omega)
  · exact Nat.le_trans hB2 h4.size
  · obtain ⟨k1, k2⟩ := htt t x y e h7 h8
    exact ⟨RowAt.gkeep (X := W2.drew) k1 h4 (fun h => by injection h with h; exact k2 h), k2⟩
end Go.Proofs.Ytiemlaehhmlhmaa.Ct
namespace Go.Proofs.Ytiemlaehhmlhmaa.Ct
open Go.RowKit
open Go.Proofs.Ytiemlaehhmlhmaa.Addr (hiN loN adV cmpN ad_eql ad_guard RowAt below2 below_drew below_new bset RowAt.lt RowAt.cell RowAt.frozen RowAt.below RowAt.drew RowAt.new RowAt.alloc cells2 RowAt.gkeep Bl bl_ne wp_region_bl bl_call)
open Go.Proofs.Ytiemlaehhmlhmaa.Lk (hasRow_own)
attribute [-go_sem] Builtin.append_
def NilIf (n : Nat) (u : Value) : Prop := n = 0 → u = .slice none 0 0
end Go.Proofs.Ytiemlaehhmlhmaa.Ct
namespace Go.Proofs.Ytiemlaehhmlhmaa.Sp
open Go.RowKit
open Go.Proofs.Ytiemlaehhmlhmaa.Lk (HasRow)
open Go.Proofs.Ytiemlaehhmlhmaa.Addr (wideN rightB hiN loN adV cmpN nextE prevE rcmp_any rright_any rnext_any cmp_le RowAt below2 below_drew below_new bset RowAt.lt RowAt.cell RowAt.frozen RowAt.below RowAt.drew RowAt.new RowAt.alloc cells2 cells4 results_cell gset grefl Bl bl_ne wp_region_bl bl_call bl_same)
set_option maxHeartbeats 2000000 in
theorem rone_any (six : Bool) (s : Sp) (w : World) (hs : FitS s) : Calls Try.prog 39 #[.bool six, spV s] w fun e w' => e = .returned (.bool (okS six s)) ∧ Below w.heap.size w w' := by
  have ci1 := fun w => rright_any six s.1 w hs.1
  have ci2 := fun w => rright_any six s.2 w hs.2
  have cc := fun w => rcmp_any s.1 s.2 w hs.1 hs.2
  have hle : decide (cmpN s.1 s.2 ≤ 0) = decide (s.1 ≤ s.2) := cmp_le
  unfold okS
  rw [← hle]
  clear hle
  unfold spV
  unfold adV at *
  generalize rightB six s.1 = A at *
  generalize rightB six s.2 = B at *
  generalize cmpN s.1 s.2 = c at *
  generalize hiN s.1 = sa at *
  generalize loN s.1 = sb at *
  generalize hiN s.2 = sc at *
  generalize loN s.2 = sd at *
  clear hs
  obtain ⟨X, hX⟩ : ∃ X, X = w.alloc (.cells #[.int .u64 (sa : Int), .int .u64 (sb : Int), .int .u64 (sc : Int), .int .u64 (sd : Int)] 34) := ⟨_, rfl⟩
  have hB : Below w.heap.size w X := by rw [hX]; exact below_new (Below.refl _ _) _
  have rs : RowAt X (w.heap.size) [.int .u64 (sa : Int), .int .u64 (sb : Int), .int .u64 (sc : Int), .int .u64 (sd : Int)] 34 := by rw [hX]; exact RowAt.new _ _ _
  obtain ⟨x0, x1, x2, x3, xf⟩ := cells4 rs
  go_enter Try.func39, Try.ntmps39
  go_upto_region 1 with fail
  rw [← hX]
  clear hX
  go_wp2_with fail
  go_at_call 53; refine (ci1 _).mono ?_; rintro e w2 ⟨rfl, hb⟩
  replace rs := rs.below hb
  replace hB := below2 hB hb
  clear x0 x1 x2 x3 xf hb
  obtain ⟨x0, x1, x2, x3, xf⟩ := cells4 rs
  cases A
  · go_wp2_with fail
    go_ret
    exact ⟨rfl, hB⟩
  · go_wp2_with fail
    go_at_call 53; refine (ci2 _).mono ?_; rintro e w3 ⟨rfl, hb⟩
    replace rs := rs.below hb
    replace hB := below2 hB hb
    clear x0 x1 x2 x3 xf hb
    obtain ⟨x0, x1, x2, x3, xf⟩ := cells4 rs
    cases B
    · go_wp2_with fail
      go_ret
      exact ⟨rfl, hB⟩
    · go_wp2_with fail
      go_at_call 44; refine (cc _).mono ?_; rintro e w4 ⟨rfl, hb⟩
      replace hB := below2 hB hb
      clear x0 x1 x2 x3 xf hb rs
      go_wp2_with fail
      go_ret
      exact ⟨rfl, hB⟩
theorem in_end {l : List Sp} {k : Nat} {x : Nat} (h : inB (l.take k) x = false) (hk : k = l.length) : inB l x = false := by
  rw [hk, List.take_length] at h; exact h
theorem in_hit {l : List Sp} {k : Nat} {x : Nat} (hk : k < l.length) (h : hasS l[k] x = true) : inB l x = true := by
  unfold inB; exact List.any_eq_true.2 ⟨_, List.getElem_mem hk, h⟩
theorem in_next {l : List Sp} {k : Nat} {x : Nat} (hk : k < l.length) (h0 : inB (l.take k) x = false) (h : hasS l[k] x = false) : inB (l.take (k + 1)) x = false := by
  rw [inB_take hk, h0, h]; rfl
set_option maxHeartbeats 4000000 in
set_option maxRecDepth 20000 in
theorem rin_any (l : List Sp) (x : Nat) (v : Value) (w : World) (h : HasSps w v l) (hf : ∀ s ∈ l, FitS s) (hx : x < 2 ^ 128) :
    Calls Try.prog 54 #[v, adV x] w fun e w' => e = .returned (.bool (inB l x)) ∧ Below w.heap.size w w' := by
  obtain ⟨o, c, rfl, hc1, hc2⟩ := HasRow.slice h
  have HF : Hid (∀ s ∈ l, FitS s) := hf
  have HX : Hid (x < 2 ^ 128) := hx
  obtain ⟨xa, hxa⟩ : ∃ q, q = hiN x := ⟨_, rfl⟩
  obtain ⟨xb, hxb⟩ : ∃ q, q = loN x := ⟨_, rfl⟩
  have HXV : Hid (adV x = .agg #[.int .u64 (xa : Int), .int .u64 (xb : Int)]) := by rw [hxa, hxb]; rfl
  obtain ⟨X0, hX0⟩ : ∃ X, X = w.alloc (.cells #[.int .u64 (xa : Int), .int .u64 (xb : Int)] 25) := ⟨_, rfl⟩
  have hB0 : Below w.heap.size w X0 := by rw [hX0]; exact below_new (Below.refl _ _) _
  have rx : RowAt X0 w.heap.size [.int .u64 (xa : Int), .int .u64 (xb : Int)] 25 := by rw [hX0]; exact RowAt.new _ _ _
  have HR : Hid (∀ wr : World, Below X0.heap.size X0 wr → HasSps wr (.slice o l.length c) l ∧ RowAt wr w.heap.size [.int .u64 (xa : Int), .int .u64 (xb : Int)] 25) := fun wr hb => ⟨(h.keep hB0).keep hb, rx.below hb⟩
  obtain ⟨n, hn⟩ : ∃ n, n = l.length := ⟨_, rfl⟩
  have HN : Hid (n = l.length) := hn
  rw [← hn] at HR hc1 ⊢
  have hni : (n : Int) ≤ 9223372036854775807 := by omega
  obtain ⟨R, hR⟩ : ∃ R, R = inB l x := ⟨_, rfl⟩
  have HD : Hid (R = inB l x) := hR
  rw [← hR, HXV.out]
  clear h hn hR hf hx rx hxa hxb
  obtain ⟨gx, hgx⟩ : ∃ q, q = w.heap.size := ⟨_, rfl⟩
  rw [← hgx] at HR
  go_enter Try.func54, Try.ntmps54
  go_upto_region 1 with fail
  rw [← hX0, ← hgx]
  clear hX0 hgx
  go_wp2_with fail
  go_loopw [9] (fun i wr => ∃ k : Nat, k ≤ n ∧ i = .int .i64 k ∧ Below X0.heap.size X0 wr ∧ Hid (inB (l.take k) x = false)) (fun i _ => n - (intOf i).toNat)
  case atStart => exact ⟨0, by omega, rfl, Below.refl _ _, by rw [List.take_zero]; exact inB_nil x⟩
  case round =>
    obtain ⟨k, hk, rfl, hB, HG⟩ := hrel
    obtain ⟨hh, rx⟩ := HR.out _ hB
    by_cases hlt : k < n
    · have hkz : k < l.length := by rw [← HN.out]; exact hlt
      obtain ⟨g1, i1, rfl, hg1, a0, a1, a2, a3⟩ := HasSps.cell hh k hkz
      have hfk := HF.out _ (List.getElem_mem hkz)
      have hki : (k : Int) < (n : Int) := by omega
      have HB1 : Hid (hasS l[k] x = true → R = true) := fun h => by rw [HD.out]; exact in_hit hkz h
      have HB2 : Hid (hasS l[k] x = false → inB (l.take (k + 1)) x = false) := fun h => in_next hkz HG.out h
      have c1 := fun (W : World) => rcmp_any l[k].1 x W hfk.1 HX.out
      have c2 := fun (W : World) => rcmp_any x l[k].2 W HX.out hfk.2
      have hle1 : decide (cmpN l[k].1 x ≤ 0) = decide (l[k].1 ≤ x) := cmp_le
      have hle2 : decide (cmpN x l[k].2 ≤ 0) = decide (x ≤ l[k].2) := cmp_le
      unfold hasS at HB1 HB2
      rw [← hle1, ← hle2] at HB1 HB2
      rw [HXV.out] at c1 c2
      unfold adV at c1 c2
      clear hle1 hle2
      obtain ⟨sk, hsk⟩ : ∃ sk, sk = l[k] := ⟨_, rfl⟩
      rw [← hsk] at a0 a1 a2 a3 c1 c2 HB1 HB2
      obtain ⟨s1, s2⟩ := sk
      clear hsk hfk HG
      simp only at a0 a1 a2 a3 c1 c2 HB1 HB2
      generalize cmpN s1 x = m1 at *
      generalize cmpN x s2 = m2 at *
      generalize hiN s1 = ka at *
      generalize loN s1 = kb at *
      generalize hiN s2 = kc at *
      generalize loN s2 = kd at *
      go_upto_region 4 with fail
      obtain ⟨X, hX⟩ : ∃ X, X = wr.alloc (.cells #[.int .u64 (ka : Int), .int .u64 (kb : Int), .int .u64 (kc : Int), .int .u64 (kd : Int)] 34) := ⟨_, rfl⟩
      have hbX : Below wr.heap.size wr X := by rw [hX]; exact below_new (Below.refl _ _) _
      have rk : RowAt X wr.heap.size [.int .u64 (ka : Int), .int .u64 (kb : Int), .int .u64 (kc : Int), .int .u64 (kd : Int)] 34 := by rw [hX]; exact RowAt.new _ _ _
      rw [← hX]
      have hBX := below2 hB hbX
      replace rx := rx.below hbX
      clear hX hbX hh
      obtain ⟨gs, hgs⟩ : ∃ g, g = wr.heap.size := ⟨_, rfl⟩
      rw [← hgs] at rk ⊢
      clear hgs a0 a1 a2 a3 hg1 hB
      obtain ⟨x0, x1, x2, x3, xf⟩ := cells4 rk
      obtain ⟨y0, y1, yf⟩ := cells2 rx
      go_wp2_with fail
      go_at_call 44; refine (c1 _).mono ?_; rintro e w2 ⟨rfl, hb⟩
      replace rk := rk.below hb
      replace rx := rx.below hb
      replace hBX := below2 hBX hb
      clear x0 x1 x2 x3 xf y0 y1 yf hb
      obtain ⟨x0, x1, x2, x3, xf⟩ := cells4 rk
      obtain ⟨y0, y1, yf⟩ := cells2 rx
      by_cases h1 : m1 ≤ 0
      · have hA : decide (m1 ≤ 0) = true := decide_eq_true h1
        go_wp2_with fail
        go_at_call 44; refine (c2 _).mono ?_; rintro e w3 ⟨rfl, hb⟩
        replace hBX := below2 hBX hb
        clear x0 x1 x2 x3 xf y0 y1 yf hb rk rx
        by_cases h2 : m2 ≤ 0
        · have hA2 : decide (m2 ≤ 0) = true := decide_eq_true h2
          have HV : Hid (R = true) := HB1.out (by rw [hA, hA2]; rfl)
          have hW := below2 hB0 hBX
          clear HB1 HB2 HD
          go_wp2_with fail
          go_ret
          exact ⟨by rw [HV.out]; rfl, hW⟩
        · have hA2 : decide (m2 ≤ 0) = false := decide_eq_false h2
          have HS : Hid (inB (l.take (k + 1)) x = false) := HB2.out (by rw [hA, hA2]; rfl)
          clear HB1 HB2
          go_wp2_with fail
          go_roundw
          case rel => exact ⟨k + 1, by omega, by go_num, hBX, HS⟩
          case measure => simp [intOf]; omega
      · have hA : decide (m1 ≤ 0) = false := decide_eq_false h1
        have HS : Hid (inB (l.take (k + 1)) x = false) := HB2.out (by rw [hA]; rfl)
        clear HB1 HB2 x0 x1 x2 x3 xf y0 y1 yf rk rx
        go_wp2_with fail
        go_roundw
        case rel => exact ⟨k + 1, by omega, by go_num, hBX, HS⟩
        case measure => simp [intOf]; omega
    · have HV : Hid (R = false) := by show _ = _; rw [HD.out]; exact in_end HG.out (by have := HN.out; omega)
      have hkf : decide ((k : Int) < (n : Int)) = false := decide_eq_false (by omega)
      have hW := below2 hB0 hB
      clear HG HD
      go_wp2_with fail
      go_ret
      exact ⟨by rw [HV.out]; rfl, hW⟩
end Go.Proofs.Ytiemlaehhmlhmaa.Sp
namespace Go.Proofs.Ytiemlaehhmlhmaa.Sp
open Go.RowKit
open Go.Proofs.Ytiemlaehhmlhmaa.Lk (HasRow)
open Go.Proofs.Ytiemlaehhmlhmaa.Addr (wideN rightB hiN loN adV cmpN nextE prevE rcmp_any rright_any rnext_any cmp_le RowAt below2 below_drew below_new bset RowAt.lt RowAt.cell RowAt.frozen RowAt.below RowAt.drew RowAt.new RowAt.alloc cells2 cells4 results_cell gset grefl Bl bl_ne wp_region_bl bl_call bl_same)
theorem next_fit (six : Bool) {t : Nat} : (nextE six t).1 < 2 ^ 128 := by
  have : (2 : Nat) ^ wideN six ≤ 2 ^ 128 := Nat.pow_le_pow_right (by decide) (Addr.wideN_le six)
  unfold nextE
  split
  · rename_i hr
    have := of_decide_eq_true hr
    split
    · show 0 < _; decide
    · show t + 1 < _; omega
  · show 0 < _; decide
set_option maxHeartbeats 4000000 in
set_option maxRecDepth 20000 in
theorem rchk_any (six : Bool) (l : List Sp) (v : Value) (w : World) (h : HasSps w v l) (hf : ∀ s ∈ l, FitS s) :
    Calls Try.prog 17 #[.bool six, v] w fun e w' => e = .returned (.int .i64 (chk (okB six l))) ∧ Below w.heap.size w w' := by
  obtain ⟨o, c, rfl, hc1, hc2⟩ := HasRow.slice h
  by_cases hlen : 1024 < l.length
  · have HV : Hid (chk (okB six l) = 2) := by show _ = _; unfold okB; rw [decide_eq_false (by omega)]; rfl
    have hq1 : decide ((1024 : Int) < (l.length : Int)) = true := decide_eq_true (by omega)
    have hq2 : decide (1024 < l.length) = true := decide_eq_true hlen
    generalize chk (okB six l) = R at *
    generalize l.length = n at *
    clear h hf
    go_enter Try.func17, Try.ntmps17
    go_wp2_with fail
    go_ret
    exact ⟨by rw [HV.out]; rfl, Below.refl _ _⟩
  have hq1 : decide ((1024 : Int) < (l.length : Int)) = false := decide_eq_false (by omega)
  have hq2 : decide (1024 < l.length) = false := decide_eq_false hlen
  have HC : Hid (∀ b, rowB six l = b → chk (okB six l) = chk b) := fun b hb => by unfold okB; rw [decide_eq_true (by omega), hb]; rfl
  have HR : Hid (∀ wr : World, Below w.heap.size w wr → HasSps wr (.slice o l.length c) l) := fun wr hb => h.keep hb
  have HF : Hid (∀ s ∈ l, FitS s) := hf
  obtain ⟨n, hn⟩ : ∃ n, n = l.length := ⟨_, rfl⟩
  have HN : Hid (n = l.length) := hn
  rw [← hn] at HR hc1 hq1 hq2 ⊢
  have hni : (n : Int) ≤ 9223372036854775807 := by omega
  obtain ⟨R, hR⟩ : ∃ R, R = chk (okB six l) := ⟨_, rfl⟩
  rw [← hR] at HC ⊢
  clear h hn hR hf hlen
  go_enter Try.func17, Try.ntmps17
  go_wp2_with fail
  go_loopw [14] (fun i wr => ∃ k : Nat, k ≤ n ∧ i = .int .i64 k ∧ Below w.heap.size w wr ∧ Hid (Row six (l.take k))) (fun i _ => n - (intOf i).toNat)
  case atStart => exact ⟨0, by omega, rfl, Below.refl _ _, by rw [List.take_zero]; exact row_nil six⟩
  case round =>
    obtain ⟨k, hk, rfl, hB, HG⟩ := hrel
    have hh := HR.out _ hB
    by_cases hlt : k < n
    · have hkz : k < l.length := by rw [← HN.out]; exact hlt
      obtain ⟨g1, i1, rfl, hg1, a0, a1, a2, a3⟩ := HasSps.cell hh k hkz
      have hfk := HF.out _ (List.getElem_mem hkz)
      have cr := fun (W : World) => rone_any six l[k] W hfk
      have hki : (k : Int) < (n : Int) := by omega
      have HB1 : Hid (okS six l[k] = false → R = 2) := fun h => HC.out false (row_bad1 hkz h)
      have HB2 : Hid (okS six l[k] = true → k = 0 → Row six (l.take (k + 1))) := fun h h0 => row_step hkz HG.out h (fun h1 => absurd h1 (by omega))
      have HB3 : Hid (okS six l[k] = true → ∀ (j : Nat) (hj : j < l.length), k = j + 1 → (apartB six l[j].2 l[k].1 = true → Row six (l.take (k + 1))) ∧ (apartB six l[j].2 l[k].1 = false → R = 2)) := fun h j hj h0 => by
        have hz := row_round hkz HG.out h h0 hj
        exact ⟨hz.1, fun hq => HC.out false (hz.2 hq)⟩
      have HNX : Hid (∀ (j : Nat) (hj : j < l.length) (W : World), Calls Try.prog 43 #[.bool six, adV l[j].2] W fun e w' => e = .returned (.tuple #[adV (nextE six l[j].2).1, .int .i64 (nextE six l[j].2).2]) ∧ Below W.heap.size W w') := fun j hj W => rnext_any six l[j].2 W (HF.out _ (List.getElem_mem hj)).2
      have HCM : Hid (∀ (j : Nat) (hj : j < l.length) (W : World), Calls Try.prog 44 #[adV (nextE six l[j].2).1, adV l[k].1] W fun e w' => e = .returned (.int .i64 (cmpN (nextE six l[j].2).1 l[k].1)) ∧ Below W.heap.size W w') := fun j hj W => rcmp_any _ _ W (next_fit six) hfk.1
      unfold spV at cr
      generalize okS six l[k] = B1 at cr HB1 HB2 HB3
      obtain ⟨sk, hsk⟩ : ∃ sk, sk = l[k] := ⟨_, rfl⟩
      rw [← hsk] at a0 a1 a2 a3 cr HB3 HCM
      obtain ⟨s1, s2⟩ := sk
      clear hsk hfk HG
      simp only at a0 a1 a2 a3 cr HB3 HCM
      obtain ⟨ka, hka⟩ : ∃ q, q = hiN s1 := ⟨_, rfl⟩
      obtain ⟨kb, hkb⟩ : ∃ q, q = loN s1 := ⟨_, rfl⟩
      have HKV : Hid (adV s1 = .agg #[.int .u64 (ka : Int), .int .u64 (kb : Int)]) := by rw [hka, hkb]; rfl
      rw [← hka, ← hkb] at cr
      rw [← hka] at a0
      rw [← hkb] at a1
      rw [HKV.out] at HCM
      clear hka hkb HKV
      generalize hiN s2 = kc at *
      generalize loN s2 = kd at *
      go_upto_region 6 with fail
      obtain ⟨X, hX⟩ : ∃ X, X = wr.alloc (.cells #[.int .u64 (ka : Int), .int .u64 (kb : Int), .int .u64 (kc : Int), .int .u64 (kd : Int)] 34) := ⟨_, rfl⟩
      have hbX : Below wr.heap.size wr X := by rw [hX]; exact below_new (Below.refl _ _) _
      have rk : RowAt X wr.heap.size [.int .u64 (ka : Int), .int .u64 (kb : Int), .int .u64 (kc : Int), .int .u64 (kd : Int)] 34 := by rw [hX]; exact RowAt.new _ _ _
      rw [← hX]
      have hBX := below2 hB hbX
      replace hh := hh.keep hbX
      clear hX hbX
      obtain ⟨gs, hgs⟩ : ∃ g, g = wr.heap.size := ⟨_, rfl⟩
      rw [← hgs] at rk ⊢
      clear hgs a0 a1 a2 a3 hg1 hB
      obtain ⟨x0, x1, x2, x3, xf⟩ := cells4 rk
      go_wp2_with fail
      go_at_call 39; refine (cr _).mono ?_; rintro e w2 ⟨rfl, hb⟩
      replace rk := rk.below hb
      replace hh := hh.keep hb
      replace hBX := below2 hBX hb
      clear x0 x1 x2 x3 xf hb cr
      obtain ⟨x0, x1, x2, x3, xf⟩ := cells4 rk
      cases B1
      · have HV : Hid (R = 2) := HB1.out rfl
        clear HB1 HB2 HB3 HC hh
        go_wp2_with fail
        go_ret
        exact ⟨by rw [HV.out]; rfl, hBX⟩
      · by_cases hk0 : k = 0
        · have HS1 : Hid (Row six (l.take (k + 1))) := HB2.out rfl hk0
          have hz1 : decide ((0 : Int) < (k : Int)) = false := decide_eq_false (by omega)
          have hz2 : decide (0 < k) = false := decide_eq_false (by omega)
          clear HB1 HB2 HB3 hh hk0
          go_wp2_with fail
          go_roundw
          case rel => exact ⟨k + 1, by omega, by go_num, hBX, HS1⟩
          case measure => simp [intOf]; omega
        · obtain ⟨j, hj⟩ : ∃ j, k = j + 1 := ⟨k - 1, by omega⟩
          have hj2 : j < l.length := by omega
          obtain ⟨g2, i2, e12, hg2, _, _, b2, b3⟩ := HasSps.cell hh j hj2
          injection e12 with e12
          injection e12 with e1 e2
          subst e1 e2
          obtain ⟨HN1, HN2⟩ := HB3.out rfl j hj2 hj
          have HN1 : Hid (apartB six l[j].2 s1 = true → Row six (l.take (k + 1))) := HN1
          have HN2 : Hid (apartB six l[j].2 s1 = false → R = 2) := HN2
          have cn := fun W => HNX.out j hj2 W
          have cm := fun W => HCM.out j hj2 W
          have hle : decide (cmpN (nextE six l[j].2).1 s1 < 0) = decide ((nextE six l[j].2).1 < s1) := cmp_lt0
          unfold apartB at HN1 HN2
          rw [← hle] at HN1 HN2
          unfold adV at cn cm
          clear hle HB1 HB2 HB3 HNX HCM hh
          generalize cmpN (nextE six l[j].2).1 s1 = m1 at *
          generalize hiN (nextE six l[j].2).1 = na at *
          generalize loN (nextE six l[j].2).1 = nb at *
          generalize hye : (nextE six l[j].2).2 = y at *
          generalize hiN l[j].2 = ja at *
          generalize loN l[j].2 = jb at *
          have e1 : (k : Int) - 1 = (j : Int) := by omega
          have e2 : IntKind.i64.wrap (j : Int) = (j : Int) := by rw [IntKind.wrap_i64]; omega
          have hkp : decide ((0 : Int) < (k : Int)) = true := decide_eq_true (by omega)
          have hkp2 : decide (0 < k) = true := decide_eq_true (by omega)
          have hjn : (j : Int) < (n : Int) := by omega
          clear hye hk0 hj
          go_wp2_with fail
          go_at_call 43; refine (cn _).mono ?_; rintro e w3 ⟨rfl, hb⟩
          replace rk := rk.below hb
          replace hBX := below2 hBX hb
          clear x0 x1 x2 x3 xf hb cn b2 b3 hg2 e1 e2 hkp hkp2 hjn
          go_upto_region 10 with fail
          obtain ⟨Y, hY⟩ : ∃ X, X = w3.alloc (.cells #[.int .u64 (na : Int), .int .u64 (nb : Int)] 25) := ⟨_, rfl⟩
          have hbY : Below w3.heap.size w3 Y := by rw [hY]; exact below_new (Below.refl _ _) _
          have rn : RowAt Y w3.heap.size [.int .u64 (na : Int), .int .u64 (nb : Int)] 25 := by rw [hY]; exact RowAt.new _ _ _
          rw [← hY]
          replace rk := rk.below hbY
          have hBY := below2 hBX hbY
          clear hY hbY hBX
          obtain ⟨gn, hgn⟩ : ∃ g, g = w3.heap.size := ⟨_, rfl⟩
          rw [← hgn] at rn ⊢
          clear hgn
          obtain ⟨x0, x1, x2, x3, xf⟩ := cells4 rk
          obtain ⟨y0, y1, yf⟩ := cells2 rn
          by_cases hy : y = 0
          · have HY : Hid (decide (y = 0) = true) := decide_eq_true hy
            subst hy
            go_wp2_with fail
            go_at_call 44; refine (cm _).mono ?_; rintro e w4 ⟨rfl, hb⟩
            replace hBY := below2 hBY hb
            clear x0 x1 x2 x3 xf y0 y1 yf rk rn hb
            by_cases h1 : 0 ≤ m1
            · have hA : decide (0 ≤ m1) = true := decide_eq_true h1
              have HV : Hid (R = 2) := HN2.out (by rw [decide_eq_false (show ¬ m1 < 0 by omega)]; rfl)
              clear HN1 HN2 HC
              go_wp2_with fail
              go_ret
              exact ⟨by rw [HV.out]; rfl, hBY⟩
            · have hA : decide (0 ≤ m1) = false := decide_eq_false h1
              have HS : Hid (Row six (l.take (k + 1))) := HN1.out (by rw [decide_eq_true (show m1 < 0 by omega)]; rfl)
              clear HN1 HN2
              go_wp2_with fail
              go_roundw
              case rel => exact ⟨k + 1, by omega, by go_num, hBY, HS⟩
              case measure => simp [intOf]; omega
          · have hA : decide (y = 0) = false := decide_eq_false hy
            have HV : Hid (R = 2) := HN2.out (by rw [hA]; rfl)
            clear HN1 HN2 HC x0 x1 x2 x3 xf y0 y1 yf rk rn
            go_wp2_with fail
            go_ret
            exact ⟨by rw [HV.out]; rfl, hBY⟩
    · have HV : Hid (R = 0) := HC.out true (row_end HG.out (by have := HN.out; omega))
      have hkf : decide ((k : Int) < (n : Int)) = false := decide_eq_false (by omega)
      clear HG HC
      go_wp2_with fail
      go_ret
      exact ⟨by rw [HV.out]; rfl, hB⟩
end Go.Proofs.Ytiemlaehhmlhmaa.Sp
namespace Go.Proofs.Ytiemlaehhmlhmaa.Sp
open Go.RowKit Go.Shelf
open Go.Proofs.Ytiemlaehhmlhmaa.Lk (HasRow hasRow_own addr_add)
open Go.Proofs.Ytiemlaehhmlhmaa.Addr (Pf pfV okP lastN lastE rlast_any rright_any wideN rightB hiN loN adV cmpN RowAt below2 below_drew below_new bset RowAt.lt RowAt.cell RowAt.frozen RowAt.below RowAt.drew RowAt.new RowAt.alloc cells2 cells4 results_cell gset grefl)
set_option maxHeartbeats 2000000 in
theorem rof10_any (p : Pf) (w : World) (hl : -9223372036854775808 ≤ p.len ∧ p.len ≤ 9223372036854775807) (ha : p.n < 2 ^ 128) : Calls Try.prog 14 #[pfV p] w fun e w' => e = .returned (.tuple #[spV (if okP p = true then (p.n, lastN p) else (0, 0)), .int .i64 (chk (okP p))]) ∧ Below w.heap.size w w' := by
  have cl := fun w => rlast_any p w hl ha
  have HV : Hid (∀ ok, okP p = ok → lastE p = (if ok then (lastN p, 0) else (0, 2))) := fun ok h => by unfold lastE; rw [h]
  have h00 : spV (0, 0) = .agg #[.int .u64 0, .int .u64 0, .int .u64 0, .int .u64 0] := by
    have e1 : hiN 0 = 0 := by unfold hiN; exact Nat.zero_div _
    have e2 : loN 0 = 0 := by unfold loN; exact Nat.zero_mod _
    show Value.agg #[.int .u64 (hiN 0 : Int), .int .u64 (loN 0 : Int), .int .u64 (hiN 0 : Int), .int .u64 (loN 0 : Int)] = _
    rw [e1, e2]; rfl
  have ha0 : adV 0 = .agg #[.int .u64 0, .int .u64 0] := rfl
  obtain ⟨X, hX⟩ : ∃ X, X = (w.alloc (.cells #[.bool p.six, .int .u64 (hiN p.n : Int), .int .u64 (loN p.n : Int), .int .i64 p.len] 27)).alloc (.cells #[.int .u64 0, .int .u64 0, .int .u64 0, .int .u64 0] 34) := ⟨_, rfl⟩
  have hB : Below w.heap.size w X := by rw [hX]; exact below_new (below_new (Below.refl _ _) _) _
  have rp : RowAt X w.heap.size [.bool p.six, .int .u64 (hiN p.n : Int), .int .u64 (loN p.n : Int), .int .i64 p.len] 27 := by rw [hX]; exact (RowAt.new _ _ _).alloc _
  have rz : RowAt X (w.heap.size + 1) [.int .u64 0, .int .u64 0, .int .u64 0, .int .u64 0] 34 := by
    have h := RowAt.new (w.alloc (.cells #[.bool p.six, .int .u64 (hiN p.n : Int), .int .u64 (loN p.n : Int), .int .i64 p.len] 27)) [.int .u64 0, .int .u64 0, .int .u64 0, .int .u64 0] 34
    rw [World.size_alloc] at h
    rw [hX]; exact h
  cases hok : okP p
  · rw [HV.out false hok] at cl
    simp only [Bool.false_eq_true, if_false] at cl ⊢
    rw [h00]
    rw [ha0] at cl
    unfold pfV at *
    generalize hiN p.n = a at *
    generalize loN p.n = b at *
    generalize p.six = six at *
    generalize p.len = ln at *
    clear HV h00 ha0 hok ha hl
    obtain ⟨p0, p1, p2, p3, pf⟩ := cells4 rp
    go_enter Try.func14, Try.ntmps14
    go_upto_region 1 with fail
    rw [← hX]
    clear hX rp
    go_wp2_with fail
    go_at_call 41; refine (cl _).mono ?_; rintro e w2 ⟨rfl, hb⟩
    replace rz := rz.below hb
    replace hB := below2 hB hb
    have hlt := rz.lt
    clear p0 p1 p2 p3 pf hb cl
    obtain ⟨z0, z1, z2, z3, zf⟩ := cells4 rz
    clear rz
    go_wp2_with fail
    (try simp only [Exit.inBlock, Exit.then])
    refine bodyPost_ret (v := .tuple #[.agg #[.int .u64 0, .int .u64 0, .int .u64 0, .int .u64 0], .int .i64 2]) ?_ rfl ⟨rfl, ?_⟩
    · rw [results_cell_tmp rfl]
      go_simp
    · repeat' (first | with_reducible exact hB | with_reducible apply below_new | with_reducible refine bset ?_ (by omega))
  · rw [HV.out true hok] at cl
    simp only [if_true] at cl ⊢
    unfold pfV adV at *
    unfold spV
    simp only
    generalize hiN (lastN p) = la at *
    generalize loN (lastN p) = lb at *
    generalize hiN p.n = a at *
    generalize loN p.n = b at *
    generalize p.six = six at *
    generalize p.len = ln at *
    clear HV h00 ha0 hok ha hl
    obtain ⟨p0, p1, p2, p3, pf⟩ := cells4 rp
    go_enter Try.func14, Try.ntmps14
    go_upto_region 1 with fail
    rw [← hX]
    clear hX
    go_wp2_with fail
    go_at_call 41; refine (cl _).mono ?_; rintro e w2 ⟨rfl, hb⟩
    replace rz := rz.below hb
    replace rp := rp.below hb
    replace hB := below2 hB hb
    have hlt := rz.lt
    have hlp := rp.lt
    clear p0 p1 p2 p3 pf hb cl
    obtain ⟨z0, z1, z2, z3, zf⟩ := cells4 rz
    obtain ⟨p0, p1, p2, p3, pf⟩ := cells4 rp
    clear rz rp
    go_wp2_with fail
    (try simp only [Exit.inBlock, Exit.then])
    refine bodyPost_ret (v := .tuple #[.agg #[.int .u64 (a : Int), .int .u64 (b : Int), .int .u64 (la : Int), .int .u64 (lb : Int)], .int .i64 0]) ?_ rfl ⟨rfl, ?_⟩
    · rw [results_cell_tmp rfl]
      go_simp
    · repeat' (first | with_reducible exact hB | with_reducible apply below_new | with_reducible refine bset ?_ (by omega))
set_option maxHeartbeats 2000000 in
theorem rhas10_any (six : Bool) (l : List Sp) (n : Nat) (v : Value) (w : World) (h : HasSps w v l) (hf : ∀ s ∈ l, FitS s) (hn : n < 2 ^ 128) :
    Calls Try.prog 25 #[.bool six, v, adV n] w fun e w' => e = .returned (.tuple #[.bool (hasE six l n).1, .int .i64 (hasE six l n).2]) ∧ Below w.heap.size w w' := by
  have ck := fun (W : World) (hq : HasSps W v l) => rchk_any six l v W hq hf
  have cr := fun W => rright_any six n W hn
  have ci := fun (W : World) (hq : HasSps W v l) => rin_any l n v W hq hf hn
  obtain ⟨X, hX⟩ : ∃ X, X = w.alloc (.cells #[.int .u64 (hiN n : Int), .int .u64 (loN n : Int)] 25) := ⟨_, rfl⟩
  have hB : Below w.heap.size w X := by rw [hX]; exact below_new (Below.refl _ _) _
  have ra : RowAt X w.heap.size [.int .u64 (hiN n : Int), .int .u64 (loN n : Int)] 25 := by rw [hX]; exact RowAt.new _ _ _
  replace h := h.keep hB
  unfold adV at *
  have HE : Hid (∀ A B, okB six l = A → rightB six n = B → hasE six l n = (if A && B then (inB l n, 0) else (false, 2))) := fun A B h1 h2 => by unfold hasE; rw [h1, h2]
  generalize hasE six l n = R at *
  generalize inB l n = I at *
  cases hA : okB six l
  · rw [hA] at ck
    have HV : Hid (R = (false, 2)) := HE.out _ _ hA rfl
    obtain ⟨x0, x1, xf⟩ := cells2 ra
    generalize hiN n = na at *
    generalize loN n = nb at *
    clear hf hn HE hA
    go_enter Try.func25, Try.ntmps25
    go_upto_region 1 with fail
    rw [← hX]
    clear hX
    go_wp2_with fail
    go_at_call 17; refine (ck _ h).mono ?_; rintro e w2 ⟨rfl, hb⟩
    replace hB := below2 hB hb
    clear x0 x1 xf hb ra
    unfold chk
    go_wp2_with fail
    go_ret2
    exact ⟨by rw [HV.out]; rfl, hB⟩
  · rw [hA] at ck
    cases hBr : rightB six n
    · rw [hBr] at cr
      have HV : Hid (R = (false, 2)) := HE.out _ _ hA hBr
      obtain ⟨x0, x1, xf⟩ := cells2 ra
      generalize hiN n = na at *
      generalize loN n = nb at *
      clear hf hn HE hA hBr
      go_enter Try.func25, Try.ntmps25
      go_upto_region 1 with fail
      rw [← hX]
      clear hX
      go_wp2_with fail
      go_at_call 17; refine (ck _ h).mono ?_; rintro e w2 ⟨rfl, hb⟩
      replace hB := below2 hB hb
      replace ra := ra.below hb
      clear x0 x1 xf hb
      obtain ⟨x0, x1, xf⟩ := cells2 ra
      unfold chk
      go_wp2_with fail
      go_at_call 53; refine (cr _).mono ?_; rintro e w3 ⟨rfl, hb⟩
      replace hB := below2 hB hb
      clear x0 x1 xf hb ra
      go_wp2_with fail
      go_ret2
      exact ⟨by rw [HV.out]; rfl, hB⟩
    · rw [hBr] at cr
      have HV : Hid (R = (I, 0)) := HE.out _ _ hA hBr
      obtain ⟨x0, x1, xf⟩ := cells2 ra
      generalize hiN n = na at *
      generalize loN n = nb at *
      clear hf hn HE hA hBr
      go_enter Try.func25, Try.ntmps25
      go_upto_region 1 with fail
      rw [← hX]
      clear hX
      go_wp2_with fail
      go_at_call 17; refine (ck _ h).mono ?_; rintro e w2 ⟨rfl, hb⟩
      replace hB := below2 hB hb
      replace ra := ra.below hb
      replace h := h.keep hb
      clear x0 x1 xf hb
      obtain ⟨x0, x1, xf⟩ := cells2 ra
      unfold chk
      go_wp2_with fail
      go_at_call 53; refine (cr _).mono ?_; rintro e w3 ⟨rfl, hb⟩
      replace hB := below2 hB hb
      replace ra := ra.below hb
      replace h := h.keep hb
      clear x0 x1 xf hb
      obtain ⟨x0, x1, xf⟩ := cells2 ra
      go_wp2_with fail
      go_at_call 54; refine (ci _ h).mono ?_; rintro e w4 ⟨rfl, hb⟩
      replace hB := below2 hB hb
      clear x0 x1 xf hb ra h
      go_wp2_with fail
      go_ret2
      exact ⟨by rw [HV.out]; rfl, hB⟩
end Go.Proofs.Ytiemlaehhmlhmaa.Sp
namespace Go.Proofs.Ytiemlaehhmlhmaa.Sp
open Go.Proofs.Ytiemlaehhmlhmaa.Addr (wideN rightB)
/-- where a span begins, and where another address follows on it -/
def plc1 (six : Bool) (s : Sp) : List Nat := s.1 :: (if s.2 < topN six then [s.2 + 1] else [])
def plc (six : Bool) (l : List Sp) : List Nat := l.flatMap (plc1 six)
theorem mem_plc {six : Bool} {l : List Sp} {x : Nat} : x ∈ plc six l ↔ ∃ s ∈ l, x = s.1 ∨ (s.2 < topN six ∧ x = s.2 + 1) := by
  unfold plc plc1
  rw [List.mem_flatMap]
  constructor
  · rintro ⟨s, hs, h⟩
    refine ⟨s, hs, ?_⟩
    rcases List.mem_cons.1 h with h | h
    · exact .inl h
    · split at h
      · exact .inr ⟨by assumption, List.mem_singleton.1 h⟩
      · cases h
  · rintro ⟨s, hs, h⟩
    refine ⟨s, hs, ?_⟩
    rcases h with h | ⟨h1, h2⟩
    · rw [h]; exact List.mem_cons_self
    · rw [if_pos h1, h2]; simp
theorem plc_app (six : Bool) (a b : List Sp) : plc six (a ++ b) = plc six a ++ plc six b := by unfold plc; rw [List.flatMap_append]
theorem plc_top {six : Bool} {l : List Sp} (hl : ∀ s ∈ l, okS six s = true) {x : Nat} (h : x ∈ plc six l) : x ≤ topN six := by
  obtain ⟨s, hs, h⟩ := mem_plc.1 h
  have := okS_iff.1 (hl s hs)
  rcases h with h | ⟨h1, h2⟩ <;> omega
/-- the places of two rows, in order, each once -/
def Plcs (six : Bool) (a b : List Sp) (P : List Nat) : Prop := P.Pairwise (· < ·) ∧ ∀ x, x ∈ P ↔ (x = 0 ∨ x ∈ plc six a ∨ x ∈ plc six b)
/-- between two places a row does not turn -/
theorem in_const {six : Bool} {l : List Sp} {p x : Nat} (hl : ∀ s ∈ l, okS six s = true) (hx : x ≤ topN six) (hp : p ≤ x) (hno : ∀ y ∈ plc six l, y ≤ x → y ≤ p) : inB l x = inB l p := by
  rw [Bool.eq_iff_iff, inB_iff, inB_iff]
  constructor
  · rintro ⟨s, hs, h1, h2⟩
    have := hno s.1 (mem_plc.2 ⟨s, hs, .inl rfl⟩) h1
    exact ⟨s, hs, this, by omega⟩
  · rintro ⟨s, hs, h1, h2⟩
    refine ⟨s, hs, by omega, ?_⟩
    apply Classical.byContradiction
    intro hn
    have := hno (s.2 + 1) (mem_plc.2 ⟨s, hs, .inr ⟨by omega, rfl⟩⟩) (by omega)
    omega
/-- what the document's row holds ahead of a place: all members below it, the last span open or not -/
def RwI (six : Bool) (f : Nat → Bool) (out : List Sp) (o : Bool) (p : Nat) : Prop :=
  (o = false → (p = 0 ∨ f (p - 1) = false) ∧ Row six out ∧ ∀ x, inB out x = true ↔ (f x = true ∧ x < p)) ∧
  (o = true → ∃ a q, out = a ++ [(q, 0)] ∧ q < p ∧ (∀ x, q ≤ x → x < p → f x = true) ∧ Row six a ∧ (∀ x, inB a x = true ↔ (f x = true ∧ x < q)) ∧ ∀ s ∈ a, s.2 + 1 < q)
theorem rw_start (six : Bool) (f : Nat → Bool) : RwI six f [] false 0 :=
  ⟨fun _ => ⟨.inl rfl, row_nil six, fun x => ⟨fun h => (by cases h), fun h => (by omega)⟩⟩, fun h => (by cases h)⟩
theorem rw_shift {six : Bool} {f : Nat → Bool} {out : List Sp} {p p2 : Nat} (h2 : Row six out) (h3 : ∀ x, inB out x = true ↔ (f x = true ∧ x < p)) (hp : p < p2) (hc : ∀ x, p ≤ x → x < p2 → f x = f p) (hf : f p = false) : RwI six f out false p2 := by
  refine ⟨fun _ => ⟨.inr (by rw [hc _ (by omega) (by omega)]; exact hf), h2, fun x => ?_⟩, fun h => (by cases h)⟩
  rw [h3]
  constructor
  · rintro ⟨a, b⟩; exact ⟨a, by omega⟩
  · rintro ⟨a, b⟩
    refine ⟨a, ?_⟩
    apply Classical.byContradiction
    intro hn
    rw [hc x (by omega) b, hf] at a
    cases a
theorem rw_skip {six : Bool} {f : Nat → Bool} {out : List Sp} {p p2 : Nat} (h : RwI six f out false p) (hp : p < p2) (hc : ∀ x, p ≤ x → x < p2 → f x = f p) (hf : f p = false) : RwI six f out false p2 :=
  rw_shift (h.1 rfl).2.1 (h.1 rfl).2.2 hp hc hf
theorem rw_open {six : Bool} {f : Nat → Bool} {out : List Sp} {p p2 : Nat} (h : RwI six f out false p) (hp : p < p2) (hc : ∀ x, p ≤ x → x < p2 → f x = f p) (hf : f p = true) : RwI six f (out ++ [(p, 0)]) true p2 := by
  obtain ⟨h1, h2, h3⟩ := h.1 rfl
  refine ⟨fun h => (by cases h), fun _ => ⟨out, p, rfl, hp, fun x hx hx2 => by rw [hc x hx hx2]; exact hf, h2, h3, fun s hs => ?_⟩⟩
  have hok := okS_iff.1 (h2.1 s hs)
  have hm := (h3 s.2).1 (inB_iff.2 ⟨s, hs, hok.1, by omega⟩)
  rcases h1 with h1 | h1
  · omega
  · apply Classical.byContradiction
    intro hn
    have : s.2 = p - 1 := by omega
    rw [this, h1] at hm
    cases hm.1
theorem rw_keep {six : Bool} {f : Nat → Bool} {out : List Sp} {p p2 : Nat} (h : RwI six f out true p) (hp : p < p2) (hc : ∀ x, p ≤ x → x < p2 → f x = f p) (hf : f p = true) : RwI six f out true p2 := by
  obtain ⟨a, q, e, h1, h2, h3⟩ := h.2 rfl
  refine ⟨fun h => (by cases h), fun _ => ⟨a, q, e, by omega, fun x hx hx2 => ?_, h3⟩⟩
  by_cases hl : x < p
  · exact h2 x hx hl
  · rw [hc x (by omega) hx2]; exact hf
theorem rw_last {six : Bool} {f : Nat → Bool} {a : List Sp} {p q : Nat} (h1 : q < p) (h2 : ∀ x, q ≤ x → x < p → f x = true) (h3 : Row six a) (h4 : ∀ x, inB a x = true ↔ (f x = true ∧ x < q)) (h5 : ∀ s ∈ a, s.2 + 1 < q) (ht : p ≤ topN six + 1) :
    Row six (a ++ [(q, p - 1)]) ∧ ∀ x, inB (a ++ [(q, p - 1)]) x = true ↔ (f x = true ∧ x < p) := by
  refine ⟨row_app h3 (okS_iff.2 ⟨by show q ≤ p - 1; omega, by show p - 1 ≤ _; omega⟩) h5, fun x => ?_⟩
  rw [inB_app, inB_one, Bool.or_eq_true, h4, hasS_iff]
  constructor
  · rintro (⟨u, v⟩ | ⟨u, v⟩)
    · exact ⟨u, by omega⟩
    · have u2 : q ≤ x := u
      have v2 : x ≤ p - 1 := v
      exact ⟨h2 x u2 (by omega), by omega⟩
  · rintro ⟨u, v⟩
    by_cases hl : x < q
    · exact .inl ⟨u, hl⟩
    · exact .inr ⟨by show q ≤ x; omega, by show x ≤ p - 1; omega⟩
theorem rw_shut {six : Bool} {f : Nat → Bool} {a : List Sp} {q p p2 : Nat} (h : RwI six f (a ++ [(q, 0)]) true p) (hp : p < p2) (hc : ∀ x, p ≤ x → x < p2 → f x = f p) (hf : f p = false) (ht : p ≤ topN six) : RwI six f (a ++ [(q, p - 1)]) false p2 := by
  obtain ⟨a2, q2, e, h1, h2, h3, h4, h5⟩ := h.2 rfl
  obtain ⟨e1, e2⟩ := List.append_inj' e rfl
  have e3 : q = q2 := by injection e2 with e2; injection e2
  subst e1 e3
  obtain ⟨r1, r2⟩ := rw_last h1 h2 h3 h4 h5 (by omega)
  exact rw_shift r1 r2 hp hc hf
theorem rw_end0 {six : Bool} {f : Nat → Bool} {out : List Sp} (h : RwI six f out false (topN six + 1)) : Row six out ∧ ∀ x, inB out x = true ↔ (f x = true ∧ x ≤ topN six) := by
  obtain ⟨_, h2, h3⟩ := h.1 rfl
  exact ⟨h2, fun x => by rw [h3, Nat.lt_succ_iff]⟩
theorem rw_end1 {six : Bool} {f : Nat → Bool} {a : List Sp} {q : Nat} (h : RwI six f (a ++ [(q, 0)]) true (topN six + 1)) : Row six (a ++ [(q, topN six)]) ∧ ∀ x, inB (a ++ [(q, topN six)]) x = true ↔ (f x = true ∧ x ≤ topN six) := by
  obtain ⟨a2, q2, e, h1, h2, h3, h4, h5⟩ := h.2 rfl
  obtain ⟨e1, e2⟩ := List.append_inj' e rfl
  have e3 : q = q2 := by injection e2 with e2; injection e2
  subst e1 e3
  obtain ⟨r1, r2⟩ := rw_last h1 h2 h3 h4 h5 (by omega)
  exact ⟨r1, fun x => by rw [← Nat.lt_succ_iff]; exact r2 x⟩
/-- an open row ends with the span that is not shut yet -/
theorem rw_tail {six : Bool} {f : Nat → Bool} {out : List Sp} {p : Nat} (h : RwI six f out true p) : ∃ a q, out = a ++ [(q, 0)] := by
  obtain ⟨a, q, e, _⟩ := h.2 rfl
  exact ⟨a, q, e⟩
/-- the place behind a place, or what follows on the last address -/
def nxt (six : Bool) (P : List Nat) (k : Nat) : Nat := P.getD k (topN six + 1)
theorem nxt_at {six : Bool} {P : List Nat} {k : Nat} (h : k < P.length) : nxt six P k = P[k] := by unfold nxt; simp [List.getD_eq_getElem?_getD, List.getElem?_eq_getElem h]
theorem nxt_end {six : Bool} {P : List Nat} : nxt six P P.length = topN six + 1 := by unfold nxt; simp [List.getD_eq_getElem?_getD]
theorem plcs_first {six : Bool} {a b : List Sp} {P : List Nat} (h : Plcs six a b P) : ∃ h0 : 0 < P.length, P[0] = 0 := by
  obtain ⟨i, hi, e⟩ := List.getElem_of_mem ((h.2 0).2 (.inl rfl))
  refine ⟨by omega, ?_⟩
  by_cases hz : i = 0
  · subst hz; exact e
  · have := List.pairwise_iff_getElem.1 h.1 0 i (by omega) hi (by omega)
    omega
theorem plcs_le {six : Bool} {a b : List Sp} {P : List Nat} (h : Plcs six a b P) (ha : ∀ s ∈ a, okS six s = true) (hb : ∀ s ∈ b, okS six s = true) {k : Nat} (hk : k < P.length) : P[k] ≤ topN six := by
  rcases (h.2 _).1 (List.getElem_mem hk) with e | e | e
  · omega
  · exact plc_top ha e
  · exact plc_top hb e
theorem plcs_step {six : Bool} {a b : List Sp} {P : List Nat} (h : Plcs six a b P) (ha : ∀ s ∈ a, okS six s = true) (hb : ∀ s ∈ b, okS six s = true) {k : Nat} (hk : k < P.length) :
    P[k] < nxt six P (k + 1) ∧ nxt six P (k + 1) ≤ topN six + 1 ∧ ∀ x, P[k] ≤ x → x < nxt six P (k + 1) → inB a x = inB a P[k] ∧ inB b x = inB b P[k] := by
  have hle := plcs_le h ha hb hk
  have hnx : P[k] < nxt six P (k + 1) ∧ nxt six P (k + 1) ≤ topN six + 1 := by
    by_cases hk1 : k + 1 < P.length
    · rw [nxt_at hk1]
      have := plcs_le h ha hb hk1
      exact ⟨List.pairwise_iff_getElem.1 h.1 k (k + 1) hk hk1 (by omega), by omega⟩
    · have e : k + 1 = P.length := by omega
      rw [e, nxt_end]; omega
  refine ⟨hnx.1, hnx.2, fun x h1 h2 => ?_⟩
  have hno : ∀ y ∈ P, y ≤ x → y ≤ P[k] := fun y hy hyx => by
    obtain ⟨i, hi, e⟩ := List.getElem_of_mem hy
    by_cases hik : i ≤ k
    · by_cases he : i = k
      · subst he; omega
      · have := List.pairwise_iff_getElem.1 h.1 i k hi hk (by omega)
        omega
    · exfalso
      have hk1 : k + 1 < P.length := by omega
      rw [nxt_at hk1] at h2
      by_cases he : i = k + 1
      · subst he; omega
      · have := List.pairwise_iff_getElem.1 h.1 (k + 1) i hk1 hi (by omega)
        omega
  exact ⟨in_const ha (by omega) h1 (fun y hy hyx => hno y ((h.2 y).2 (.inr (.inl hy))) hyx), in_const hb (by omega) h1 (fun y hy hyx => hno y ((h.2 y).2 (.inr (.inr hy))) hyx)⟩
end Go.Proofs.Ytiemlaehhmlhmaa.Sp
namespace Go.Proofs.Ytiemlaehhmlhmaa.Sp
open Go.RowKit Go.Shelf
open Go.Proofs.Ytiemlaehhmlhmaa.Lk (HasRow hasRow_own addr_add)
open Go.Proofs.Ytiemlaehhmlhmaa.Ct (HasAds)
open Go.Proofs.Ytiemlaehhmlhmaa.Addr (Pf pfV okP lastN lastE rlast_any rprev_any rright_any prevE wideN rightB hiN loN adV cmpN RowAt below2 below_drew below_new bset RowAt.lt RowAt.cell RowAt.frozen RowAt.below RowAt.drew RowAt.new RowAt.alloc cells2 cells4 results_cell gset grefl Bl bl_ne wp_region_bl bl_call bl_same)
attribute [-go_sem] Builtin.append_
def how2 (h : Nat) (x y : Bool) : Bool := if h = 2 then (!x && !y) else (if h = 1 then (x && y) else (x || y))
/-- what is known of the places of two rows that are handed over in a block -/
def PlcC (six : Bool) (a b : List Sp) (va vb : Value) (w : World) : Prop := ∀ W : World, Below w.heap.size w W → Calls Try.prog 72 #[.bool six, .slice (some ⟨W.heap.size, 0, none⟩) 2 2] (W.alloc (.cells #[va, vb] 22)) fun e w' => ∃ u P, e = .returned u ∧ HasAds w' u P ∧ Below W.heap.size W w' ∧ Plcs six a b P ∧ P.length ≤ 4097
theorem last_six (six : Bool) : Addr.lastE ⟨six, 0, 0⟩ = (topN six, 0) := by cases six <;> rfl
theorem prev_in {six : Bool} {p : Nat} (h : p ≤ topN six) (h0 : 0 < p) : prevE six p = (p - 1, 0) := by
  unfold prevE
  rw [if_pos ((top_lt six p).2 h), if_neg (by omega)]
set_option maxHeartbeats 16000000 in
set_option maxRecDepth 20000 in
theorem row0_any (six : Bool) (a b : List Sp) (va vb : Value) (w : World) (ha : HasSps w va a) (hb : HasSps w vb b) (hoa : ∀ s ∈ a, okS six s = true) (hob : ∀ s ∈ b, okS six s = true) (hpl : PlcC six a b va vb w) :
    Calls Try.prog 40 #[.bool six, .int .i64 0, va, vb] w fun e w' => ∃ u R, e = .returned u ∧ Own1 w w' 34 u R ∧ Row six R ∧ (∀ x, inB R x = true ↔ (how2 0 (inB a x) (inB b x) = true ∧ x ≤ topN six)) ∧ R.length ≤ 4098 := by
  obtain ⟨oa, ca, rfl, _, _⟩ := HasRow.slice ha
  obtain ⟨ob, cb, rfl, _, _⟩ := HasRow.slice hb
  obtain ⟨va, hva⟩ : ∃ va, va = Value.slice oa a.length ca := ⟨_, rfl⟩
  obtain ⟨vb, hvb⟩ : ∃ vb, vb = Value.slice ob b.length cb := ⟨_, rfl⟩
  have hq := hpl w (Below.refl _ _)
  have hi0 : hiN 0 = 0 := by unfold hiN; exact Nat.zero_div _
  have hz0 : ((0 : Nat) : Int) = 0 := rfl
  have lo0 : loN 0 = 0 := by unfold loN; exact Nat.zero_mod _
  have HAB : Hid (∀ W, Below w.heap.size w W → HasSps W (Value.slice oa a.length ca) a ∧ HasSps W (Value.slice ob b.length cb) b) := fun W hq => ⟨ha.keep hq, hb.keep hq⟩
  have HFA : Hid (∀ s ∈ a, FitS s) := fun s hs => ok_fit (hoa s hs)
  have HFB : Hid (∀ s ∈ b, FitS s) := fun s hs => ok_fit (hob s hs)
  have HOA : Hid (∀ s ∈ a, okS six s = true) := hoa
  have HOB : Hid (∀ s ∈ b, okS six s = true) := hob
  clear ha hb hoa hob hpl hva hvb va vb
  obtain ⟨la, hla⟩ : ∃ n, n = a.length := ⟨_, rfl⟩
  obtain ⟨lb, hlb⟩ : ∃ n, n = b.length := ⟨_, rfl⟩
  rw [← hla, ← hlb] at HAB
  rw [← hla, ← hlb] at hq ⊢
  clear hla hlb
  go_enter Try.func40, Try.ntmps40
  go_wp2_with fail
  go_at_call 72; refine hq.mono ?_; rintro e w2 ⟨u0, P, rfl, hP, hb2, hPl, hPn⟩
  clear hq
  obtain ⟨o5, c5, rfl, hc5, hc6⟩ := HasRow.slice hP
  have HW2 : Hid (Below w.heap.size w w2) := hb2
  have HR : Hid (∀ wr : World, Below w2.heap.size w2 wr → HasAds wr (.slice o5 P.length c5) P) := fun wr hb => hP.keep hb
  obtain ⟨f, hf⟩ : ∃ f, f = fun x => how2 0 (inB a x) (inB b x) := ⟨_, rfl⟩
  have HFF : Hid (f = fun x => how2 0 (inB a x) (inB b x)) := hf
  have HPL : Hid (Plcs six a b P) := hPl
  obtain ⟨n, hn⟩ : ∃ n, n = P.length := ⟨_, rfl⟩
  have HN : Hid (n = P.length) := hn
  rw [← hn] at HR hc5 hPn ⊢
  have hni : (n : Int) ≤ 4097 := by omega
  have H0 : Hid (Own1 w2 w2 34 (.slice none 0 0) [] ∧ RwI six f [] false (nxt six P 0) ∧ ([] : List Sp).length ≤ 0) := ⟨Own1.nil _ _, by
    obtain ⟨h0, e⟩ := plcs_first hPl
    rw [nxt_at h0, e]; exact rw_start six f, by simp⟩
  clear hn hf hPl hP hb2
  go_wp2_with fail
  go_loopw [9, 10, 22] (fun u t q wr => ∃ (k : Nat) (R : List Sp) (o : Bool), k ≤ n ∧ q = .int .i64 k ∧ t = .bool o ∧ Hid (Own1 w2 wr 34 u R ∧ RwI six f R o (nxt six P k) ∧ R.length ≤ k)) (fun _ _ q _ => n - (Go.RowKit.intOf q).toNat)
  case atStart => exact ⟨0, [], false, by omega, rfl, rfl, H0⟩
  case round =>
    obtain ⟨k, R, o, hk, rfl, rfl, HI⟩ := hrel
    obtain ⟨hO, hI, hRk⟩ := HI.out
    have hh := HR.out _ hO.bl
    by_cases hlt : k < n
    · have hkz : k < P.length := by rw [← HN.out]; exact hlt
      obtain ⟨g1, i1, rfl, hg1, a0, a1⟩ := HasAds.cell hh k hkz
      have hki : (k : Int) < (n : Int) := by omega
      rw [nxt_at hkz] at hI
      obtain ⟨s1, s2, s3⟩ := plcs_step HPL.out HOA.out HOB.out hkz
      have hpt := plcs_le HPL.out HOA.out HOB.out hkz
      obtain ⟨p, hp⟩ : ∃ p, p = P[k] := ⟨_, rfl⟩
      rw [← hp] at hI s1 s3 hpt a0 a1
      have hcf : ∀ x, p ≤ x → x < nxt six P (k + 1) → f x = f p := fun x h1 h2 => by rw [HFF.out]; simp only; rw [(s3 x h1 h2).1, (s3 x h1 h2).2]
      have HNO : Hid (o = false → f p = false → RwI six f R false (nxt six P (k + 1))) := fun h1 h2 => by subst h1; exact rw_skip hI s1 hcf h2
      have HOP : Hid (o = false → f p = true → RwI six f (R ++ [(p, 0)]) true (nxt six P (k + 1))) := fun h1 h2 => by subst h1; exact rw_open hI s1 hcf h2
      have HKE : Hid (o = true → f p = true → RwI six f R true (nxt six P (k + 1))) := fun h1 h2 => by subst h1; exact rw_keep hI s1 hcf h2
      have HTL : Hid (o = true → ∃ A2 q, R = A2 ++ [(q, 0)]) := fun h1 => by subst h1; exact rw_tail hI
      have hp128 : p < 2 ^ 128 := by have := top_big six; omega
      have HSH : Hid (o = true → f p = false → ∀ A2 q, R = A2 ++ [(q, 0)] → RwI six f (A2 ++ [(q, p - 1)]) false (nxt six P (k + 1)) ∧ ∀ W, Calls Try.prog 73 #[.bool six, adV p] W fun e w' => e = .returned (.tuple #[adV (p - 1), .int .i64 0]) ∧ Below W.heap.size W w') := fun h1 h2 A2 q hR => by
        subst h1 hR
        refine ⟨rw_shut hI s1 hcf h2 hpt, fun W => ?_⟩
        obtain ⟨_, _, _, hqp, _⟩ := hI.2 rfl
        have := rprev_any six p W hp128
        rw [prev_in hpt (by omega)] at this
        exact this
      have cia := fun (W : World) (hq : HasSps W (Value.slice oa la ca) a) => rin_any a p _ W hq HFA.out hp128
      have cib := fun (W : World) (hq : HasSps W (Value.slice ob lb cb) b) => rin_any b p _ W hq HFB.out hp128
      have HFP : Hid (f p = how2 0 (inB a p) (inB b p)) := by show _ = _; rw [HFF.out]
      unfold adV at cia cib
      obtain ⟨x1, hx1⟩ : ∃ q, q = hiN p := ⟨_, rfl⟩
      obtain ⟨x2, hx2⟩ : ∃ q, q = loN p := ⟨_, rfl⟩
      have HE1 : Hid (hiN p = x1) := hx1.symm
      have HE2 : Hid (loN p = x2) := hx2.symm
      rw [← hx1, ← hx2] at cia cib
      rw [← hx1] at a0
      rw [← hx2] at a1
      clear hx1 hx2 hp hI hcf s1 s2 s3 hpt hp128 HI hkz
      go_upto_region 6 with fail
      obtain ⟨X, hX⟩ : ∃ X, X = wr.alloc (.cells #[.int .u64 (x1 : Int), .int .u64 (x2 : Int)] 25) := ⟨_, rfl⟩
      have hbX : Below wr.heap.size wr X := by rw [hX]; exact below_new (Below.refl _ _) _
      have rx : RowAt X wr.heap.size [.int .u64 (x1 : Int), .int .u64 (x2 : Int)] 25 := by rw [hX]; exact RowAt.new _ _ _
      rw [← hX]
      replace hO := hO.below hbX
      clear hX hbX a0 a1 hh hg1
      obtain ⟨gs, hgs⟩ : ∃ g, g = wr.heap.size := ⟨_, rfl⟩
      rw [← hgs] at rx ⊢
      clear hgs
      obtain ⟨hA1, hB1⟩ := HAB.out X (below2 HW2.out hO.bl)
      have m0 : ∀ p : Bl X, p.W.cell? ⟨gs, 0, none⟩ = some (.int .u64 (x1 : Int)) := fun p => (rx.below p.h).cell 0
      have m1 : ∀ p : Bl X, p.W.cell? ⟨gs, 1, none⟩ = some (.int .u64 (x2 : Int)) := fun p => (rx.below p.h).cell 1
      have c1 := fun p : Bl X => cia p.W (hA1.keep p.h)
      have c2 := fun p : Bl X => cib p.W (hB1.keep p.h)
      clear cia cib hA1 hB1
      generalize inB a p = IA at *
      generalize inB b p = IB at *
      haveI := bl_ne X
      refine wp_region_bl (by kernel_rfl) (by kernel_rfl) ?_
      repeat (go_big_quiet_step (first | (go_at_call 54; with_reducible exact bl_call (c1 _)) | (go_at_call 54; with_reducible exact bl_call (c2 _))))
      refine wpQuiet_nil ?_
      intro wq hw'
      obtain ⟨⟨wz, hq⟩, hw2⟩ := hw'
      subst hw2
      replace hO := hO.below hq
      replace rx := rx.below hq
      clear m0 m1 c1 c2 hq this
      cases IA
      · cases IB
        · have HF : Hid (f p = false) := HFP.out.trans rfl
          clear HFP
          cases o
          · have HO : Hid (Own1 w2 wq 34 u9 R ∧ RwI six f R false (nxt six P (k + 1)) ∧ R.length ≤ k + 1) := ⟨hO, HNO.out rfl HF.out, by omega⟩
            clear HNO HOP HKE HSH hO rx HF
            go_wp2_with fail
            go_roundw
            case rel => exact ⟨k + 1, R, false, by omega, by go_num, rfl, HO⟩
            case measure => simp [Go.RowKit.intOf]; omega
          · obtain ⟨A2, q, hR⟩ := HTL.out rfl
            subst hR
            obtain ⟨gr, c5, rfl, hc5, hc6, hg5, hg6⟩ := own_shape hO
            have HA : Hid (RwI six f (A2 ++ [(q, p - 1)]) false (nxt six P (k + 1))) := (HSH.out rfl HF.out _ _ rfl).1
            have cp := (HSH.out rfl HF.out _ _ rfl).2
            unfold adV at cp
            simp only [HE1.out, HE2.out] at cp
            have HZ : Hid (∀ (W Y : World), Own1 w2 W 34 (.slice (some ⟨gr, 0, none⟩) (A2.length + 1) c5) (A2 ++ [(q, 0)]) → Y = (W.setCell ⟨gr, A2.length * 4 + 2, none⟩ (.int .u64 (hiN (p - 1) : Int))).setCell ⟨gr, A2.length * 4 + 3, none⟩ (.int .u64 (loN (p - 1) : Int)) → Own1 w2 Y 34 (.slice (some ⟨gr, 0, none⟩) (A2.length + 1) c5) (A2 ++ [(q, p - 1)])) := fun W Y h hY => own_put4 h hg5 (p - 1) Y hY
            have hRl2 : A2.length + 1 ≤ 4098 := by have : (A2 ++ [(q, 0)]).length ≤ k := hRk; simp at this; omega
            have HRK : Hid (A2.length + 1 ≤ k) := by have : (A2 ++ [(q, 0)]).length ≤ k := hRk; simp at this; exact this
            obtain ⟨y0, y1, yf⟩ := cells2 rx
            obtain ⟨n2, hn2⟩ : ∃ n2, n2 = A2.length := ⟨_, rfl⟩
            have HP : Hid (n2 = A2.length) := hn2
            rw [← hn2] at HZ hc5 hRl2 hO ⊢
            clear hn2 HNO HOP HKE HSH HF hRk
            obtain ⟨za, hza⟩ : ∃ q, q = hiN (p - 1) := ⟨_, rfl⟩
            obtain ⟨zb, hzb⟩ : ∃ q, q = loN (p - 1) := ⟨_, rfl⟩
            have HZA : Hid (hiN (p - 1) = za) := hza.symm
            have HZB : Hid (loN (p - 1) = zb) := hzb.symm
            rw [← hza, ← hzb] at cp
            clear hza hzb
            have hp0 : decide ((n2 : Int) < 0) = false := decide_eq_false (by omega)
            have hpi : (n2 : Int) ≤ 4098 := by omega
            go_wp2_with fail
            go_at_call 73; refine (cp _).mono ?_; rintro e w5 ⟨rfl, hb⟩
            replace hO := hO.below hb
            clear rx y0 y1 yf cp
            obtain ⟨b9, i9, e9, hb9, _, _, z2, z3⟩ := HasSps.cell (W := w5) (o := some ⟨gr, 0, none⟩) (m := n2 + 1) (cap := c5) (l := A2 ++ [(q, 0)]) (by have := hO.has; exact this) A2.length (by simp)
            injection e9 with e9
            injection e9 with e91 e92
            subst e91 e92
            have hgz : (A2 ++ [(q, 0)])[A2.length]'(by simp) = (q, 0) := List.getElem_concat_length rfl _
            rw [Nat.zero_add, hgz, ← HP.out] at z2 z3
            clear hgz
            have hou := hO.ou
            have hle : (A2 ++ [((q, 0) : Sp)]).length = n2 + 1 := by rw [HP.out]; simp
            rw [hle] at hou
            clear hle
            have qf := hou.frozenAt
            clear hou hb
            obtain ⟨Y, hY⟩ : ∃ Y, Y = (w5.setCell ⟨gr, n2 * 4 + 2, none⟩ (.int .u64 (za : Int))).setCell ⟨gr, n2 * 4 + 3, none⟩ (.int .u64 (zb : Int)) := ⟨_, rfl⟩
            have hO2 := HZ.out w5 Y hO (by rw [hY, HZA.out, HZB.out])
            have HO : Hid (Own1 w2 Y 34 (.slice (some ⟨gr, 0, none⟩) (n2 + 1) c5) (A2 ++ [(q, p - 1)]) ∧ RwI six f (A2 ++ [(q, p - 1)]) false (nxt six P (k + 1)) ∧ (A2 ++ [(q, p - 1)]).length ≤ k + 1) := ⟨hO2, HA.out, by have := HRK.out; simp; omega⟩
            clear hO2 HA HZ hO HTL
            go_upto_region 14 with fail
            rw [← hY]
            clear hY z2 z3 qf
            go_wp2_with fail
            go_roundw
            case rel => exact ⟨k + 1, A2 ++ [(q, p - 1)], false, by omega, by go_num, rfl, HO⟩
            case measure => simp [Go.RowKit.intOf]; omega
        · have HF : Hid (f p = true) := HFP.out.trans rfl
          clear HFP
          cases o
          · have HA : Hid (RwI six f (R ++ [(p, 0)]) true (nxt six P (k + 1))) := HOP.out rfl HF.out
            obtain ⟨y0, y1, yf⟩ := cells2 rx
            obtain ⟨g3, cap3, w3, hrun, hO3, _⟩ := app_S hO (p, 0) (by omega)
            have HO : Hid (Own1 w2 w3 34 (.slice (some ⟨g3, 0, none⟩) (R ++ [(p, 0)]).length cap3) (R ++ [(p, 0)]) ∧ RwI six f (R ++ [(p, 0)]) true (nxt six P (k + 1)) ∧ R.length + 1 ≤ k + 1) := ⟨hO3, HA.out, by omega⟩
            clear hO3 hO HA rx HNO HOP HKE HSH HF
            simp only [HE1.out, HE2.out, hi0, lo0, hz0] at hrun
            generalize hmm : (R ++ [(p, 0)]).length = m at hrun HO
            clear hmm
            go_wp2_with fail
            go_roundw
            case rel => exact ⟨k + 1, R ++ [(p, 0)], true, by omega, by go_num, rfl, ⟨HO.out.1, HO.out.2.1, by rw [List.length_append]; exact HO.out.2.2⟩⟩
            case measure => simp [Go.RowKit.intOf]; omega
          · have HO : Hid (Own1 w2 wq 34 u9 R ∧ RwI six f R true (nxt six P (k + 1)) ∧ R.length ≤ k + 1) := ⟨hO, HKE.out rfl HF.out, by omega⟩
            clear HNO HOP HKE HSH hO rx HF
            go_wp2_with fail
            go_roundw
            case rel => exact ⟨k + 1, R, true, by omega, by go_num, rfl, HO⟩
            case measure => simp [Go.RowKit.intOf]; omega
      · cases IB
        · have HF : Hid (f p = true) := HFP.out.trans rfl
          clear HFP
          cases o
          · have HA : Hid (RwI six f (R ++ [(p, 0)]) true (nxt six P (k + 1))) := HOP.out rfl HF.out
            obtain ⟨y0, y1, yf⟩ := cells2 rx
            obtain ⟨g3, cap3, w3, hrun, hO3, _⟩ := app_S hO (p, 0) (by omega)
            have HO : Hid (Own1 w2 w3 34 (.slice (some ⟨g3, 0, none⟩) (R ++ [(p, 0)]).length cap3) (R ++ [(p, 0)]) ∧ RwI six f (R ++ [(p, 0)]) true (nxt six P (k + 1)) ∧ R.length + 1 ≤ k + 1) := ⟨hO3, HA.out, by omega⟩
            clear hO3 hO HA rx HNO HOP HKE HSH HF
            simp only [HE1.out, HE2.out, hi0, lo0, hz0] at hrun
            generalize hmm : (R ++ [(p, 0)]).length = m at hrun HO
            clear hmm
            go_wp2_with fail
            go_roundw
            case rel => exact ⟨k + 1, R ++ [(p, 0)], true, by omega, by go_num, rfl, ⟨HO.out.1, HO.out.2.1, by rw [List.length_append]; exact HO.out.2.2⟩⟩
            case measure => simp [Go.RowKit.intOf]; omega
          · have HO : Hid (Own1 w2 wq 34 u9 R ∧ RwI six f R true (nxt six P (k + 1)) ∧ R.length ≤ k + 1) := ⟨hO, HKE.out rfl HF.out, by omega⟩
            clear HNO HOP HKE HSH hO rx HF
            go_wp2_with fail
            go_roundw
            case rel => exact ⟨k + 1, R, true, by omega, by go_num, rfl, HO⟩
            case measure => simp [Go.RowKit.intOf]; omega
        · have HF : Hid (f p = true) := HFP.out.trans rfl
          clear HFP
          cases o
          · have HA : Hid (RwI six f (R ++ [(p, 0)]) true (nxt six P (k + 1))) := HOP.out rfl HF.out
            obtain ⟨y0, y1, yf⟩ := cells2 rx
            obtain ⟨g3, cap3, w3, hrun, hO3, _⟩ := app_S hO (p, 0) (by omega)
            have HO : Hid (Own1 w2 w3 34 (.slice (some ⟨g3, 0, none⟩) (R ++ [(p, 0)]).length cap3) (R ++ [(p, 0)]) ∧ RwI six f (R ++ [(p, 0)]) true (nxt six P (k + 1)) ∧ R.length + 1 ≤ k + 1) := ⟨hO3, HA.out, by omega⟩
            clear hO3 hO HA rx HNO HOP HKE HSH HF
            simp only [HE1.out, HE2.out, hi0, lo0, hz0] at hrun
            generalize hmm : (R ++ [(p, 0)]).length = m at hrun HO
            clear hmm
            go_wp2_with fail
            go_roundw
            case rel => exact ⟨k + 1, R ++ [(p, 0)], true, by omega, by go_num, rfl, ⟨HO.out.1, HO.out.2.1, by rw [List.length_append]; exact HO.out.2.2⟩⟩
            case measure => simp [Go.RowKit.intOf]; omega
          · have HO : Hid (Own1 w2 wq 34 u9 R ∧ RwI six f R true (nxt six P (k + 1)) ∧ R.length ≤ k + 1) := ⟨hO, HKE.out rfl HF.out, by omega⟩
            clear HNO HOP HKE HSH hO rx HF
            go_wp2_with fail
            go_roundw
            case rel => exact ⟨k + 1, R, true, by omega, by go_num, rfl, HO⟩
            case measure => simp [Go.RowKit.intOf]; omega
    · have hkn : decide ((k : Int) < (n : Int)) = false := decide_eq_false (by omega)
      have hke : k = P.length := by rw [← HN.out]; omega
      rw [hke, nxt_end] at hI
      have hR4 : R.length ≤ 4098 := by omega
      clear HI hh hke
      cases o
      · have hE := rw_end0 hI
        have HF : Hid (Own1 w wr 34 u9 R ∧ Row six R ∧ (∀ x, inB R x = true ↔ (how2 0 (inB a x) (inB b x) = true ∧ x ≤ topN six)) ∧ R.length ≤ 4098) := ⟨hO.to HW2.out, hE.1, fun x => by rw [hE.2, HFF.out], hR4⟩
        clear hE hI hO
        go_wp2_with fail
        go_ret
        exact ⟨_, R, rfl, HF.out.1, HF.out.2.1, HF.out.2.2.1, HF.out.2.2.2⟩
      · have HTL : Hid (∃ A2 q, R = A2 ++ [(q, 0)]) := rw_tail hI
        obtain ⟨A2, q, hR⟩ := HTL.out
        subst hR
        obtain ⟨gr, c5, rfl, hc5, hc6, hg5, hg6⟩ := own_shape hO
        have hE := rw_end1 hI
        have HZ : Hid (∀ (W Y : World), Own1 w2 W 34 (.slice (some ⟨gr, 0, none⟩) (A2.length + 1) c5) (A2 ++ [(q, 0)]) → Y = (W.setCell ⟨gr, A2.length * 4 + 2, none⟩ (.int .u64 (hiN (topN six) : Int))).setCell ⟨gr, A2.length * 4 + 3, none⟩ (.int .u64 (loN (topN six) : Int)) → Own1 w2 Y 34 (.slice (some ⟨gr, 0, none⟩) (A2.length + 1) c5) (A2 ++ [(q, topN six)])) := fun W Y h hY => own_put4 h hg5 (topN six) Y hY
        have cl := fun W => rlast_any ⟨six, 0, 0⟩ W (show (-9223372036854775808 : Int) ≤ 0 ∧ (0 : Int) ≤ 9223372036854775807 by decide) (show 0 < 2 ^ 128 by decide)
        rw [last_six] at cl
        unfold pfV adV at cl
        simp only [hi0, lo0, hz0] at cl
        have hRl2 : A2.length + 1 ≤ 4098 := by simp at hR4; omega
        have HD2 : Hid (∀ W', Own1 w2 W' 34 (.slice (some ⟨gr, 0, none⟩) (A2.length + 1) c5) (A2 ++ [(q, topN six)]) → Own1 w W' 34 (.slice (some ⟨gr, 0, none⟩) (A2.length + 1) c5) (A2 ++ [(q, topN six)]) ∧ Row six (A2 ++ [(q, topN six)]) ∧ (∀ x, inB (A2 ++ [(q, topN six)]) x = true ↔ (how2 0 (inB a x) (inB b x) = true ∧ x ≤ topN six)) ∧ (A2 ++ [(q, topN six)]).length ≤ 4098) := fun W' h => ⟨h.to HW2.out, hE.1, fun x => by rw [hE.2, HFF.out], by simp at hR4 ⊢; omega⟩
        obtain ⟨n2, hn2⟩ : ∃ n2, n2 = A2.length := ⟨_, rfl⟩
        have HP : Hid (n2 = A2.length) := hn2
        rw [← hn2] at HZ HD2 hc5 hRl2 hO ⊢
        clear hn2 hE hI
        obtain ⟨za, hza⟩ : ∃ q, q = hiN (topN six) := ⟨_, rfl⟩
        obtain ⟨zb, hzb⟩ : ∃ q, q = loN (topN six) := ⟨_, rfl⟩
        have HZA : Hid (hiN (topN six) = za) := hza.symm
        have HZB : Hid (loN (topN six) = zb) := hzb.symm
        rw [← hza, ← hzb] at cl
        clear hza hzb
        have hp0 : decide ((n2 : Int) < 0) = false := decide_eq_false (by omega)
        have hpi : (n2 : Int) ≤ 4098 := by omega
        go_wp2_with fail
        go_at_call 41; refine (cl _).mono ?_; rintro e w5 ⟨rfl, hb⟩
        replace hO := hO.below hb
        clear cl
        obtain ⟨b9, i9, e9, hb9, _, _, z2, z3⟩ := HasSps.cell (W := w5) (o := some ⟨gr, 0, none⟩) (m := n2 + 1) (cap := c5) (l := A2 ++ [(q, 0)]) (by have := hO.has; exact this) A2.length (by simp)
        injection e9 with e9
        injection e9 with e91 e92
        subst e91 e92
        have hgz : (A2 ++ [(q, 0)])[A2.length]'(by simp) = (q, 0) := List.getElem_concat_length rfl _
        rw [Nat.zero_add, hgz, ← HP.out] at z2 z3
        clear hgz
        have hou := hO.ou
        have hle : (A2 ++ [((q, 0) : Sp)]).length = n2 + 1 := by rw [HP.out]; simp
        rw [hle] at hou
        clear hle
        have qf := hou.frozenAt
        clear hou hb
        obtain ⟨Y, hY⟩ : ∃ Y, Y = (w5.setCell ⟨gr, n2 * 4 + 2, none⟩ (.int .u64 (za : Int))).setCell ⟨gr, n2 * 4 + 3, none⟩ (.int .u64 (zb : Int)) := ⟨_, rfl⟩
        have hO2 := HZ.out w5 Y hO (by rw [hY, HZA.out, HZB.out])
        have HF := HD2.out Y hO2
        have HF : Hid _ := HF
        clear hO2 HZ HD2 hO HTL
        go_upto_region 20 with fail
        rw [← hY]
        clear hY z2 z3 qf
        go_wp2_with fail
        go_ret
        exact ⟨_, _, rfl, HF.out.1, HF.out.2.1, HF.out.2.2.1, HF.out.2.2.2⟩
set_option maxHeartbeats 16000000 in
set_option maxRecDepth 20000 in
theorem row1_any (six : Bool) (a b : List Sp) (va vb : Value) (w : World) (ha : HasSps w va a) (hb : HasSps w vb b) (hoa : ∀ s ∈ a, okS six s = true) (hob : ∀ s ∈ b, okS six s = true) (hpl : PlcC six a b va vb w) :
    Calls Try.prog 40 #[.bool six, .int .i64 1, va, vb] w fun e w' => ∃ u R, e = .returned u ∧ Own1 w w' 34 u R ∧ Row six R ∧ (∀ x, inB R x = true ↔ (how2 1 (inB a x) (inB b x) = true ∧ x ≤ topN six)) ∧ R.length ≤ 4098 := by
  obtain ⟨oa, ca, rfl, _, _⟩ := HasRow.slice ha
  obtain ⟨ob, cb, rfl, _, _⟩ := HasRow.slice hb
  obtain ⟨va, hva⟩ : ∃ va, va = Value.slice oa a.length ca := ⟨_, rfl⟩
  obtain ⟨vb, hvb⟩ : ∃ vb, vb = Value.slice ob b.length cb := ⟨_, rfl⟩
  have hq := hpl w (Below.refl _ _)
  have hi0 : hiN 0 = 0 := by unfold hiN; exact Nat.zero_div _
  have hz0 : ((0 : Nat) : Int) = 0 := rfl
  have lo0 : loN 0 = 0 := by unfold loN; exact Nat.zero_mod _
  have HAB : Hid (∀ W, Below w.heap.size w W → HasSps W (Value.slice oa a.length ca) a ∧ HasSps W (Value.slice ob b.length cb) b) := fun W hq => ⟨ha.keep hq, hb.keep hq⟩
  have HFA : Hid (∀ s ∈ a, FitS s) := fun s hs => ok_fit (hoa s hs)
  have HFB : Hid (∀ s ∈ b, FitS s) := fun s hs => ok_fit (hob s hs)
  have HOA : Hid (∀ s ∈ a, okS six s = true) := hoa
  have HOB : Hid (∀ s ∈ b, okS six s = true) := hob
  clear ha hb hoa hob hpl hva hvb va vb
  obtain ⟨la, hla⟩ : ∃ n, n = a.length := ⟨_, rfl⟩
  obtain ⟨lb, hlb⟩ : ∃ n, n = b.length := ⟨_, rfl⟩
  rw [← hla, ← hlb] at HAB
  rw [← hla, ← hlb] at hq ⊢
  clear hla hlb
  go_enter Try.func40, Try.ntmps40
  go_wp2_with fail
  go_at_call 72; refine hq.mono ?_; rintro e w2 ⟨u0, P, rfl, hP, hb2, hPl, hPn⟩
  clear hq
  obtain ⟨o5, c5, rfl, hc5, hc6⟩ := HasRow.slice hP
  have HW2 : Hid (Below w.heap.size w w2) := hb2
  have HR : Hid (∀ wr : World, Below w2.heap.size w2 wr → HasAds wr (.slice o5 P.length c5) P) := fun wr hb => hP.keep hb
  obtain ⟨f, hf⟩ : ∃ f, f = fun x => how2 1 (inB a x) (inB b x) := ⟨_, rfl⟩
  have HFF : Hid (f = fun x => how2 1 (inB a x) (inB b x)) := hf
  have HPL : Hid (Plcs six a b P) := hPl
  obtain ⟨n, hn⟩ : ∃ n, n = P.length := ⟨_, rfl⟩
  have HN : Hid (n = P.length) := hn
  rw [← hn] at HR hc5 hPn ⊢
  have hni : (n : Int) ≤ 4097 := by omega
  have H0 : Hid (Own1 w2 w2 34 (.slice none 0 0) [] ∧ RwI six f [] false (nxt six P 0) ∧ ([] : List Sp).length ≤ 0) := ⟨Own1.nil _ _, by
    obtain ⟨h0, e⟩ := plcs_first hPl
    rw [nxt_at h0, e]; exact rw_start six f, by simp⟩
  clear hn hf hPl hP hb2
  go_wp2_with fail
  go_loopw [9, 10, 22] (fun u t q wr => ∃ (k : Nat) (R : List Sp) (o : Bool), k ≤ n ∧ q = .int .i64 k ∧ t = .bool o ∧ Hid (Own1 w2 wr 34 u R ∧ RwI six f R o (nxt six P k) ∧ R.length ≤ k)) (fun _ _ q _ => n - (Go.RowKit.intOf q).toNat)
  case atStart => exact ⟨0, [], false, by omega, rfl, rfl, H0⟩
  case round =>
    obtain ⟨k, R, o, hk, rfl, rfl, HI⟩ := hrel
    obtain ⟨hO, hI, hRk⟩ := HI.out
    have hh := HR.out _ hO.bl
    by_cases hlt : k < n
    · have hkz : k < P.length := by rw [← HN.out]; exact hlt
      obtain ⟨g1, i1, rfl, hg1, a0, a1⟩ := HasAds.cell hh k hkz
      have hki : (k : Int) < (n : Int) := by omega
      rw [nxt_at hkz] at hI
      obtain ⟨s1, s2, s3⟩ := plcs_step HPL.out HOA.out HOB.out hkz
      have hpt := plcs_le HPL.out HOA.out HOB.out hkz
      obtain ⟨p, hp⟩ : ∃ p, p = P[k] := ⟨_, rfl⟩
      rw [← hp] at hI s1 s3 hpt a0 a1
      have hcf : ∀ x, p ≤ x → x < nxt six P (k + 1) → f x = f p := fun x h1 h2 => by rw [HFF.out]; simp only; rw [(s3 x h1 h2).1, (s3 x h1 h2).2]
      have HNO : Hid (o = false → f p = false → RwI six f R false (nxt six P (k + 1))) := fun h1 h2 => by subst h1; exact rw_skip hI s1 hcf h2
      have HOP : Hid (o = false → f p = true → RwI six f (R ++ [(p, 0)]) true (nxt six P (k + 1))) := fun h1 h2 => by subst h1; exact rw_open hI s1 hcf h2
      have HKE : Hid (o = true → f p = true → RwI six f R true (nxt six P (k + 1))) := fun h1 h2 => by subst h1; exact rw_keep hI s1 hcf h2
      have HTL : Hid (o = true → ∃ A2 q, R = A2 ++ [(q, 0)]) := fun h1 => by subst h1; exact rw_tail hI
      have hp128 : p < 2 ^ 128 := by have := top_big six; omega
      have HSH : Hid (o = true → f p = false → ∀ A2 q, R = A2 ++ [(q, 0)] → RwI six f (A2 ++ [(q, p - 1)]) false (nxt six P (k + 1)) ∧ ∀ W, Calls Try.prog 73 #[.bool six, adV p] W fun e w' => e = .returned (.tuple #[adV (p - 1), .int .i64 0]) ∧ Below W.heap.size W w') := fun h1 h2 A2 q hR => by
        subst h1 hR
        refine ⟨rw_shut hI s1 hcf h2 hpt, fun W => ?_⟩
        obtain ⟨_, _, _, hqp, _⟩ := hI.2 rfl
        have := rprev_any six p W hp128
        rw [prev_in hpt (by omega)] at this
        exact this
      have cia := fun (W : World) (hq : HasSps W (Value.slice oa la ca) a) => rin_any a p _ W hq HFA.out hp128
      have cib := fun (W : World) (hq : HasSps W (Value.slice ob lb cb) b) => rin_any b p _ W hq HFB.out hp128
      have HFP : Hid (f p = how2 1 (inB a p) (inB b p)) := by show _ = _; rw [HFF.out]
      unfold adV at cia cib
      obtain ⟨x1, hx1⟩ : ∃ q, q = hiN p := ⟨_, rfl⟩
      obtain ⟨x2, hx2⟩ : ∃ q, q = loN p := ⟨_, rfl⟩
      have HE1 : Hid (hiN p = x1) := hx1.symm
      have HE2 : Hid (loN p = x2) := hx2.symm
      rw [← hx1, ← hx2] at cia cib
      rw [← hx1] at a0
      rw [← hx2] at a1
      clear hx1 hx2 hp hI hcf s1 s2 s3 hpt hp128 HI hkz
      go_upto_region 6 with fail
      obtain ⟨X, hX⟩ : ∃ X, X = wr.alloc (.cells #[.int .u64 (x1 : Int), .int .u64 (x2 : Int)] 25) := ⟨_, rfl⟩
      have hbX : Below wr.heap.size wr X := by rw [hX]; exact below_new (Below.refl _ _) _
      have rx : RowAt X wr.heap.size [.int .u64 (x1 : Int), .int .u64 (x2 : Int)] 25 := by rw [hX]; exact RowAt.new _ _ _
      rw [← hX]
      replace hO := hO.below hbX
      clear hX hbX a0 a1 hh hg1
      obtain ⟨gs, hgs⟩ : ∃ g, g = wr.heap.size := ⟨_, rfl⟩
      rw [← hgs] at rx ⊢
      clear hgs
      obtain ⟨hA1, hB1⟩ := HAB.out X (below2 HW2.out hO.bl)
      have m0 : ∀ p : Bl X, p.W.cell? ⟨gs, 0, none⟩ = some (.int .u64 (x1 : Int)) := fun p => (rx.below p.h).cell 0
      have m1 : ∀ p : Bl X, p.W.cell? ⟨gs, 1, none⟩ = some (.int .u64 (x2 : Int)) := fun p => (rx.below p.h).cell 1
      have c1 := fun p : Bl X => cia p.W (hA1.keep p.h)
      have c2 := fun p : Bl X => cib p.W (hB1.keep p.h)
      clear cia cib hA1 hB1
      generalize inB a p = IA at *
      generalize inB b p = IB at *
      haveI := bl_ne X
      refine wp_region_bl (by kernel_rfl) (by kernel_rfl) ?_
      repeat (go_big_quiet_step (first | (go_at_call 54; with_reducible exact bl_call (c1 _)) | (go_at_call 54; with_reducible exact bl_call (c2 _))))
      refine wpQuiet_nil ?_
      intro wq hw'
      obtain ⟨⟨wz, hq⟩, hw2⟩ := hw'
      subst hw2
      replace hO := hO.below hq
      replace rx := rx.below hq
      clear m0 m1 c1 c2 hq this
      cases IA
      · cases IB
        · have HF : Hid (f p = false) := HFP.out.trans rfl
          clear HFP
          cases o
          · have HO : Hid (Own1 w2 wq 34 u9 R ∧ RwI six f R false (nxt six P (k + 1)) ∧ R.length ≤ k + 1) := ⟨hO, HNO.out rfl HF.out, by omega⟩
            clear HNO HOP HKE HSH hO rx HF
            go_wp2_with fail
            go_roundw
            case rel => exact ⟨k + 1, R, false, by omega, by go_num, rfl, HO⟩
            case measure => simp [Go.RowKit.intOf]; omega
          · obtain ⟨A2, q, hR⟩ := HTL.out rfl
            subst hR
            obtain ⟨gr, c5, rfl, hc5, hc6, hg5, hg6⟩ := own_shape hO
            have HA : Hid (RwI six f (A2 ++ [(q, p - 1)]) false (nxt six P (k + 1))) := (HSH.out rfl HF.out _ _ rfl).1
            have cp := (HSH.out rfl HF.out _ _ rfl).2
            unfold adV at cp
            simp only [HE1.out, HE2.out] at cp
            have HZ : Hid (∀ (W Y : World), Own1 w2 W 34 (.slice (some ⟨gr, 0, none⟩) (A2.length + 1) c5) (A2 ++ [(q, 0)]) → Y = (W.setCell ⟨gr, A2.length * 4 + 2, none⟩ (.int .u64 (hiN (p - 1) : Int))).setCell ⟨gr, A2.length * 4 + 3, none⟩ (.int .u64 (loN (p - 1) : Int)) → Own1 w2 Y 34 (.slice (some ⟨gr, 0, none⟩) (A2.length + 1) c5) (A2 ++ [(q, p - 1)])) := fun W Y h hY => own_put4 h hg5 (p - 1) Y hY
            have hRl2 : A2.length + 1 ≤ 4098 := by have : (A2 ++ [(q, 0)]).length ≤ k := hRk; simp at this; omega
            have HRK : Hid (A2.length + 1 ≤ k) := by have : (A2 ++ [(q, 0)]).length ≤ k := hRk; simp at this; exact this
            obtain ⟨y0, y1, yf⟩ := cells2 rx
            obtain ⟨n2, hn2⟩ : ∃ n2, n2 = A2.length := ⟨_, rfl⟩
            have HP : Hid (n2 = A2.length) := hn2
            rw [← hn2] at HZ hc5 hRl2 hO ⊢
            clear hn2 HNO HOP HKE HSH HF hRk
            obtain ⟨za, hza⟩ : ∃ q, q = hiN (p - 1) := ⟨_, rfl⟩
            obtain ⟨zb, hzb⟩ : ∃ q, q = loN (p - 1) := ⟨_, rfl⟩
            have HZA : Hid (hiN (p - 1) = za) := hza.symm
            have HZB : Hid (loN (p - 1) = zb) := hzb.symm
            rw [← hza, ← hzb] at cp
            clear hza hzb
            have hp0 : decide ((n2 : Int) < 0) = false := decide_eq_false (by omega)
            have hpi : (n2 : Int) ≤ 4098 := by omega
            go_wp2_with fail
            go_at_call 73; refine (cp _).mono ?_; rintro e w5 ⟨rfl, hb⟩
            replace hO := hO.below hb
            clear rx y0 y1 yf cp
            obtain ⟨b9, i9, e9, hb9, _, _, z2, z3⟩ := HasSps.cell (W := w5) (o := some ⟨gr, 0, none⟩) (m := n2 + 1) (cap := c5) (l := A2 ++ [(q, 0)]) (by have := hO.has; exact this) A2.length (by simp)
            injection e9 with e9
            injection e9 with e91 e92
            subst e91 e92
            have hgz : (A2 ++ [(q, 0)])[A2.length]'(by simp) = (q, 0) := List.getElem_concat_length rfl _
            rw [Nat.zero_add, hgz, ← HP.out] at z2 z3
            clear hgz
            have hou := hO.ou
            have hle : (A2 ++ [((q, 0) : Sp)]).length = n2 + 1 := by rw [HP.out]; simp
            rw [hle] at hou
            clear hle
            have qf := hou.frozenAt
            clear hou hb
            obtain ⟨Y, hY⟩ : ∃ Y, Y = (w5.setCell ⟨gr, n2 * 4 + 2, none⟩ (.int .u64 (za : Int))).setCell ⟨gr, n2 * 4 + 3, none⟩ (.int .u64 (zb : Int)) := ⟨_, rfl⟩
            have hO2 := HZ.out w5 Y hO (by rw [hY, HZA.out, HZB.out])
            have HO : Hid (Own1 w2 Y 34 (.slice (some ⟨gr, 0, none⟩) (n2 + 1) c5) (A2 ++ [(q, p - 1)]) ∧ RwI six f (A2 ++ [(q, p - 1)]) false (nxt six P (k + 1)) ∧ (A2 ++ [(q, p - 1)]).length ≤ k + 1) := ⟨hO2, HA.out, by have := HRK.out; simp; omega⟩
            clear hO2 HA HZ hO HTL
            go_upto_region 14 with fail
            rw [← hY]
            clear hY z2 z3 qf
            go_wp2_with fail
            go_roundw
            case rel => exact ⟨k + 1, A2 ++ [(q, p - 1)], false, by omega, by go_num, rfl, HO⟩
            case measure => simp [Go.RowKit.intOf]; omega
        · have HF : Hid (f p = false) := HFP.out.trans rfl
          clear HFP
          cases o
          · have HO : Hid (Own1 w2 wq 34 u9 R ∧ RwI six f R false (nxt six P (k + 1)) ∧ R.length ≤ k + 1) := ⟨hO, HNO.out rfl HF.out, by omega⟩
            clear HNO HOP HKE HSH hO rx HF
            go_wp2_with fail
            go_roundw
            case rel => exact ⟨k + 1, R, false, by omega, by go_num, rfl, HO⟩
            case measure => simp [Go.RowKit.intOf]; omega
          · obtain ⟨A2, q, hR⟩ := HTL.out rfl
            subst hR
            obtain ⟨gr, c5, rfl, hc5, hc6, hg5, hg6⟩ := own_shape hO
            have HA : Hid (RwI six f (A2 ++ [(q, p - 1)]) false (nxt six P (k + 1))) := (HSH.out rfl HF.out _ _ rfl).1
            have cp := (HSH.out rfl HF.out _ _ rfl).2
            unfold adV at cp
            simp only [HE1.out, HE2.out] at cp
            have HZ : Hid (∀ (W Y : World), Own1 w2 W 34 (.slice (some ⟨gr, 0, none⟩) (A2.length + 1) c5) (A2 ++ [(q, 0)]) → Y = (W.setCell ⟨gr, A2.length * 4 + 2, none⟩ (.int .u64 (hiN (p - 1) : Int))).setCell ⟨gr, A2.length * 4 + 3, none⟩ (.int .u64 (loN (p - 1) : Int)) → Own1 w2 Y 34 (.slice (some ⟨gr, 0, none⟩) (A2.length + 1) c5) (A2 ++ [(q, p - 1)])) := fun W Y h hY => own_put4 h hg5 (p - 1) Y hY
            have hRl2 : A2.length + 1 ≤ 4098 := by have : (A2 ++ [(q, 0)]).length ≤ k := hRk; simp at this; omega
            have HRK : Hid (A2.length + 1 ≤ k) := by have : (A2 ++ [(q, 0)]).length ≤ k := hRk; simp at this; exact this
            obtain ⟨y0, y1, yf⟩ := cells2 rx
            obtain ⟨n2, hn2⟩ : ∃ n2, n2 = A2.length := ⟨_, rfl⟩
            have HP : Hid (n2 = A2.length) := hn2
            rw [← hn2] at HZ hc5 hRl2 hO ⊢
            clear hn2 HNO HOP HKE HSH HF hRk
            obtain ⟨za, hza⟩ : ∃ q, q = hiN (p - 1) := ⟨_, rfl⟩
            obtain ⟨zb, hzb⟩ : ∃ q, q = loN (p - 1) := ⟨_, rfl⟩
            have HZA : Hid (hiN (p - 1) = za) := hza.symm
            have HZB : Hid (loN (p - 1) = zb) := hzb.symm
            rw [← hza, ← hzb] at cp
            clear hza hzb
            have hp0 : decide ((n2 : Int) < 0) = false := decide_eq_false (by omega)
            have hpi : (n2 : Int) ≤ 4098 := by omega
            go_wp2_with fail
            go_at_call 73; refine (cp _).mono ?_; rintro e w5 ⟨rfl, hb⟩
            replace hO := hO.below hb
            clear rx y0 y1 yf cp
            obtain ⟨b9, i9, e9, hb9, _, _, z2, z3⟩ := HasSps.cell (W := w5) (o := some ⟨gr, 0, none⟩) (m := n2 + 1) (cap := c5) (l := A2 ++ [(q, 0)]) (by have := hO.has; exact this) A2.length (by simp)
            injection e9 with e9
            injection e9 with e91 e92
            subst e91 e92
            have hgz : (A2 ++ [(q, 0)])[A2.length]'(by simp) = (q, 0) := List.getElem_concat_length rfl _
            rw [Nat.zero_add, hgz, ← HP.out] at z2 z3
            clear hgz
            have hou := hO.ou
            have hle : (A2 ++ [((q, 0) : Sp)]).length = n2 + 1 := by rw [HP.out]; simp
            rw [hle] at hou
            clear hle
            have qf := hou.frozenAt
            clear hou hb
            obtain ⟨Y, hY⟩ : ∃ Y, Y = (w5.setCell ⟨gr, n2 * 4 + 2, none⟩ (.int .u64 (za : Int))).setCell ⟨gr, n2 * 4 + 3, none⟩ (.int .u64 (zb : Int)) := ⟨_, rfl⟩
            have hO2 := HZ.out w5 Y hO (by rw [hY, HZA.out, HZB.out])
            have HO : Hid (Own1 w2 Y 34 (.slice (some ⟨gr, 0, none⟩) (n2 + 1) c5) (A2 ++ [(q, p - 1)]) ∧ RwI six f (A2 ++ [(q, p - 1)]) false (nxt six P (k + 1)) ∧ (A2 ++ [(q, p - 1)]).length ≤ k + 1) := ⟨hO2, HA.out, by have := HRK.out; simp; omega⟩
            clear hO2 HA HZ hO HTL
            go_upto_region 14 with fail
            rw [← hY]
            clear hY z2 z3 qf
            go_wp2_with fail
            go_roundw
            case rel => exact ⟨k + 1, A2 ++ [(q, p - 1)], false, by omega, by go_num, rfl, HO⟩
            case measure => simp [Go.RowKit.intOf]; omega
      · cases IB
        · have HF : Hid (f p = false) := HFP.out.trans rfl
          clear HFP
          cases o
          · have HO : Hid (Own1 w2 wq 34 u9 R ∧ RwI six f R false (nxt six P (k + 1)) ∧ R.length ≤ k + 1) := ⟨hO, HNO.out rfl HF.out, by omega⟩
            clear HNO HOP HKE HSH hO rx HF
            go_wp2_with fail
            go_roundw
            case rel => exact ⟨k + 1, R, false, by omega, by go_num, rfl, HO⟩
            case measure => simp [Go.RowKit.intOf]; omega
          · obtain ⟨A2, q, hR⟩ := HTL.out rfl
            subst hR
            obtain ⟨gr, c5, rfl, hc5, hc6, hg5, hg6⟩ := own_shape hO
            have HA : Hid (RwI six f (A2 ++ [(q, p - 1)]) false (nxt six P (k + 1))) := (HSH.out rfl HF.out _ _ rfl).1
            have cp := (HSH.out rfl HF.out _ _ rfl).2
            unfold adV at cp
            simp only [HE1.out, HE2.out] at cp
            have HZ : Hid (∀ (W Y : World), Own1 w2 W 34 (.slice (some ⟨gr, 0, none⟩) (A2.length + 1) c5) (A2 ++ [(q, 0)]) → Y = (W.setCell ⟨gr, A2.length * 4 + 2, none⟩ (.int .u64 (hiN (p - 1) : Int))).setCell ⟨gr, A2.length * 4 + 3, none⟩ (.int .u64 (loN (p - 1) : Int)) → Own1 w2 Y 34 (.slice (some ⟨gr, 0, none⟩) (A2.length + 1) c5) (A2 ++ [(q, p - 1)])) := fun W Y h hY => own_put4 h hg5 (p - 1) Y hY
            have hRl2 : A2.length + 1 ≤ 4098 := by have : (A2 ++ [(q, 0)]).length ≤ k := hRk; simp at this; omega
            have HRK : Hid (A2.length + 1 ≤ k) := by have : (A2 ++ [(q, 0)]).length ≤ k := hRk; simp at this; exact this
            obtain ⟨y0, y1, yf⟩ := cells2 rx
            obtain ⟨n2, hn2⟩ : ∃ n2, n2 = A2.length := ⟨_, rfl⟩
            have HP : Hid (n2 = A2.length) := hn2
            rw [← hn2] at HZ hc5 hRl2 hO ⊢
            clear hn2 HNO HOP HKE HSH HF hRk
            obtain ⟨za, hza⟩ : ∃ q, q = hiN (p - 1) := ⟨_, rfl⟩
            obtain ⟨zb, hzb⟩ : ∃ q, q = loN (p - 1) := ⟨_, rfl⟩
            have HZA : Hid (hiN (p - 1) = za) := hza.symm
            have HZB : Hid (loN (p - 1) = zb) := hzb.symm
            rw [← hza, ← hzb] at cp
            clear hza hzb
            have hp0 : decide ((n2 : Int) < 0) = false := decide_eq_false (by omega)
            have hpi : (n2 : Int) ≤ 4098 := by omega
            go_wp2_with fail
            go_at_call 73; refine (cp _).mono ?_; rintro e w5 ⟨rfl, hb⟩
            replace hO := hO.below hb
            clear rx y0 y1 yf cp
            obtain ⟨b9, i9, e9, hb9, _, _, z2, z3⟩ := HasSps.cell (W := w5) (o := some ⟨gr, 0, none⟩) (m := n2 + 1) (cap := c5) (l := A2 ++ [(q, 0)]) (by have := hO.has; exact this) A2.length (by simp)
            injection e9 with e9
            injection e9 with e91 e92
            subst e91 e92
            have hgz : (A2 ++ [(q, 0)])[A2.length]'(by simp) = (q, 0) := List.getElem_concat_length rfl _
            rw [Nat.zero_add, hgz, ← HP.out] at z2 z3
            clear hgz
            have hou := hO.ou
            have hle : (A2 ++ [((q, 0) : Sp)]).length = n2 + 1 := by rw [HP.out]; simp
            rw [hle] at hou
            clear hle
            have qf := hou.frozenAt
            clear hou hb
            obtain ⟨Y, hY⟩ : ∃ Y, Y = (w5.setCell ⟨gr, n2 * 4 + 2, none⟩ (.int .u64 (za : Int))).setCell ⟨gr, n2 * 4 + 3, none⟩ (.int .u64 (zb : Int)) := ⟨_, rfl⟩
            have hO2 := HZ.out w5 Y hO (by rw [hY, HZA.out, HZB.out])
            have HO : Hid (Own1 w2 Y 34 (.slice (some ⟨gr, 0, none⟩) (n2 + 1) c5) (A2 ++ [(q, p - 1)]) ∧ RwI six f (A2 ++ [(q, p - 1)]) false (nxt six P (k + 1)) ∧ (A2 ++ [(q, p - 1)]).length ≤ k + 1) := ⟨hO2, HA.out, by have := HRK.out; simp; omega⟩
            clear hO2 HA HZ hO HTL
            go_upto_region 14 with fail
            rw [← hY]
            clear hY z2 z3 qf
            go_wp2_with fail
            go_roundw
            case rel => exact ⟨k + 1, A2 ++ [(q, p - 1)], false, by omega, by go_num, rfl, HO⟩
            case measure => simp [Go.RowKit.intOf]; omega
        · have HF : Hid (f p = true) := HFP.out.trans rfl
          clear HFP
          cases o
          · have HA : Hid (RwI six f (R ++ [(p, 0)]) true (nxt six P (k + 1))) := HOP.out rfl HF.out
            obtain ⟨y0, y1, yf⟩ := cells2 rx
            obtain ⟨g3, cap3, w3, hrun, hO3, _⟩ := app_S hO (p, 0) (by omega)
            have HO : Hid (Own1 w2 w3 34 (.slice (some ⟨g3, 0, none⟩) (R ++ [(p, 0)]).length cap3) (R ++ [(p, 0)]) ∧ RwI six f (R ++ [(p, 0)]) true (nxt six P (k + 1)) ∧ R.length + 1 ≤ k + 1) := ⟨hO3, HA.out, by omega⟩
            clear hO3 hO HA rx HNO HOP HKE HSH HF
            simp only [HE1.out, HE2.out, hi0, lo0, hz0] at hrun
            generalize hmm : (R ++ [(p, 0)]).length = m at hrun HO
            clear hmm
            go_wp2_with fail
            go_roundw
            case rel => exact ⟨k + 1, R ++ [(p, 0)], true, by omega, by go_num, rfl, ⟨HO.out.1, HO.out.2.1, by rw [List.length_append]; exact HO.out.2.2⟩⟩
            case measure => simp [Go.RowKit.intOf]; omega
          · have HO : Hid (Own1 w2 wq 34 u9 R ∧ RwI six f R true (nxt six P (k + 1)) ∧ R.length ≤ k + 1) := ⟨hO, HKE.out rfl HF.out, by omega⟩
            clear HNO HOP HKE HSH hO rx HF
            go_wp2_with fail
            go_roundw
            case rel => exact ⟨k + 1, R, true, by omega, by go_num, rfl, HO⟩
            case measure => simp [Go.RowKit.intOf]; omega
    · have hkn : decide ((k : Int) < (n : Int)) = false := decide_eq_false (by omega)
      have hke : k = P.length := by rw [← HN.out]; omega
      rw [hke, nxt_end] at hI
      have hR4 : R.length ≤ 4098 := by omega
      clear HI hh hke
      cases o
      · have hE := rw_end0 hI
        have HF : Hid (Own1 w wr 34 u9 R ∧ Row six R ∧ (∀ x, inB R x = true ↔ (how2 1 (inB a x) (inB b x) = true ∧ x ≤ topN six)) ∧ R.length ≤ 4098) := ⟨hO.to HW2.out, hE.1, fun x => by rw [hE.2, HFF.out], hR4⟩
        clear hE hI hO
        go_wp2_with fail
        go_ret
        exact ⟨_, R, rfl, HF.out.1, HF.out.2.1, HF.out.2.2.1, HF.out.2.2.2⟩
      · have HTL : Hid (∃ A2 q, R = A2 ++ [(q, 0)]) := rw_tail hI
        obtain ⟨A2, q, hR⟩ := HTL.out
        subst hR
        obtain ⟨gr, c5, rfl, hc5, hc6, hg5, hg6⟩ := own_shape hO
        have hE := rw_end1 hI
        have HZ : Hid (∀ (W Y : World), Own1 w2 W 34 (.slice (some ⟨gr, 0, none⟩) (A2.length + 1) c5) (A2 ++ [(q, 0)]) → Y = (W.setCell ⟨gr, A2.length * 4 + 2, none⟩ (.int .u64 (hiN (topN six) : Int))).setCell ⟨gr, A2.length * 4 + 3, none⟩ (.int .u64 (loN (topN six) : Int)) → Own1 w2 Y 34 (.slice (some ⟨gr, 0, none⟩) (A2.length + 1) c5) (A2 ++ [(q, topN six)])) := fun W Y h hY => own_put4 h hg5 (topN six) Y hY
        have cl := fun W => rlast_any ⟨six, 0, 0⟩ W (show (-9223372036854775808 : Int) ≤ 0 ∧ (0 : Int) ≤ 9223372036854775807 by decide) (show 0 < 2 ^ 128 by decide)
        rw [last_six] at cl
        unfold pfV adV at cl
        simp only [hi0, lo0, hz0] at cl
        have hRl2 : A2.length + 1 ≤ 4098 := by simp at hR4; omega
        have HD2 : Hid (∀ W', Own1 w2 W' 34 (.slice (some ⟨gr, 0, none⟩) (A2.length + 1) c5) (A2 ++ [(q, topN six)]) → Own1 w W' 34 (.slice (some ⟨gr, 0, none⟩) (A2.length + 1) c5) (A2 ++ [(q, topN six)]) ∧ Row six (A2 ++ [(q, topN six)]) ∧ (∀ x, inB (A2 ++ [(q, topN six)]) x = true ↔ (how2 1 (inB a x) (inB b x) = true ∧ x ≤ topN six)) ∧ (A2 ++ [(q, topN six)]).length ≤ 4098) := fun W' h => ⟨h.to HW2.out, hE.1, fun x => by rw [hE.2, HFF.out], by simp at hR4 ⊢; omega⟩
        obtain ⟨n2, hn2⟩ : ∃ n2, n2 = A2.length := ⟨_, rfl⟩
        have HP : Hid (n2 = A2.length) := hn2
        rw [← hn2] at HZ HD2 hc5 hRl2 hO ⊢
        clear hn2 hE hI
        obtain ⟨za, hza⟩ : ∃ q, q = hiN (topN six) := ⟨_, rfl⟩
        obtain ⟨zb, hzb⟩ : ∃ q, q = loN (topN six) := ⟨_, rfl⟩
        have HZA : Hid (hiN (topN six) = za) := hza.symm
        have HZB : Hid (loN (topN six) = zb) := hzb.symm
        rw [← hza, ← hzb] at cl
        clear hza hzb
        have hp0 : decide ((n2 : Int) < 0) = false := decide_eq_false (by omega)
        have hpi : (n2 : Int) ≤ 4098 := by omega
        go_wp2_with fail
        go_at_call 41; refine (cl _).mono ?_; rintro e w5 ⟨rfl, hb⟩
        replace hO := hO.below hb
        clear cl
        obtain ⟨b9, i9, e9, hb9, _, _, z2, z3⟩ := HasSps.cell (W := w5) (o := some ⟨gr, 0, none⟩) (m := n2 + 1) (cap := c5) (l := A2 ++ [(q, 0)]) (by have := hO.has; exact this) A2.length (by simp)
        injection e9 with e9
        injection e9 with e91 e92
        subst e91 e92
        have hgz : (A2 ++ [(q, 0)])[A2.length]'(by simp) = (q, 0) := List.getElem_concat_length rfl _
        rw [Nat.zero_add, hgz, ← HP.out] at z2 z3
        clear hgz
        have hou := hO.ou
        have hle : (A2 ++ [((q, 0) : Sp)]).length = n2 + 1 := by rw [HP.out]; simp
        rw [hle] at hou
        clear hle
        have qf := hou.frozenAt
        clear hou hb
        obtain ⟨Y, hY⟩ : ∃ Y, Y = (w5.setCell ⟨gr, n2 * 4 + 2, none⟩ (.int .u64 (za : Int))).setCell ⟨gr, n2 * 4 + 3, none⟩ (.int .u64 (zb : Int)) := ⟨_, rfl⟩
        have hO2 := HZ.out w5 Y hO (by rw [hY, HZA.out, HZB.out])
        have HF := HD2.out Y hO2
        have HF : Hid _ := HF
        clear hO2 HZ HD2 hO HTL
        go_upto_region 20 with fail
        rw [← hY]
        clear hY z2 z3 qf
        go_wp2_with fail
        go_ret
        exact ⟨_, _, rfl, HF.out.1, HF.out.2.1, HF.out.2.2.1, HF.out.2.2.2⟩
set_option maxHeartbeats 16000000 in
set_option maxRecDepth 20000 in
theorem row2_any (six : Bool) (a b : List Sp) (va vb : Value) (w : World) (ha : HasSps w va a) (hb : HasSps w vb b) (hoa : ∀ s ∈ a, okS six s = true) (hob : ∀ s ∈ b, okS six s = true) (hpl : PlcC six a b va vb w) :
    Calls Try.prog 40 #[.bool six, .int .i64 2, va, vb] w fun e w' => ∃ u R, e = .returned u ∧ Own1 w w' 34 u R ∧ Row six R ∧ (∀ x, inB R x = true ↔ (how2 2 (inB a x) (inB b x) = true ∧ x ≤ topN six)) ∧ R.length ≤ 4098 := by
  obtain ⟨oa, ca, rfl, _, _⟩ := HasRow.slice ha
  obtain ⟨ob, cb, rfl, _, _⟩ := HasRow.slice hb
  obtain ⟨va, hva⟩ : ∃ va, va = Value.slice oa a.length ca := ⟨_, rfl⟩
  obtain ⟨vb, hvb⟩ : ∃ vb, vb = Value.slice ob b.length cb := ⟨_, rfl⟩
  have hq := hpl w (Below.refl _ _)
  have hi0 : hiN 0 = 0 := by unfold hiN; exact Nat.zero_div _
  have hz0 : ((0 : Nat) : Int) = 0 := rfl
  have lo0 : loN 0 = 0 := by unfold loN; exact Nat.zero_mod _
  have HAB : Hid (∀ W, Below w.heap.size w W → HasSps W (Value.slice oa a.length ca) a ∧ HasSps W (Value.slice ob b.length cb) b) := fun W hq => ⟨ha.keep hq, hb.keep hq⟩
  have HFA : Hid (∀ s ∈ a, FitS s) := fun s hs => ok_fit (hoa s hs)
  have HFB : Hid (∀ s ∈ b, FitS s) := fun s hs => ok_fit (hob s hs)
  have HOA : Hid (∀ s ∈ a, okS six s = true) := hoa
  have HOB : Hid (∀ s ∈ b, okS six s = true) := hob
  clear ha hb hoa hob hpl hva hvb va vb
  obtain ⟨la, hla⟩ : ∃ n, n = a.length := ⟨_, rfl⟩
  obtain ⟨lb, hlb⟩ : ∃ n, n = b.length := ⟨_, rfl⟩
  rw [← hla, ← hlb] at HAB
  rw [← hla, ← hlb] at hq ⊢
  clear hla hlb
  go_enter Try.func40, Try.ntmps40
  go_wp2_with fail
  go_at_call 72; refine hq.mono ?_; rintro e w2 ⟨u0, P, rfl, hP, hb2, hPl, hPn⟩
  clear hq
  obtain ⟨o5, c5, rfl, hc5, hc6⟩ := HasRow.slice hP
  have HW2 : Hid (Below w.heap.size w w2) := hb2
  have HR : Hid (∀ wr : World, Below w2.heap.size w2 wr → HasAds wr (.slice o5 P.length c5) P) := fun wr hb => hP.keep hb
  obtain ⟨f, hf⟩ : ∃ f, f = fun x => how2 2 (inB a x) (inB b x) := ⟨_, rfl⟩
  have HFF : Hid (f = fun x => how2 2 (inB a x) (inB b x)) := hf
  have HPL : Hid (Plcs six a b P) := hPl
  obtain ⟨n, hn⟩ : ∃ n, n = P.length := ⟨_, rfl⟩
  have HN : Hid (n = P.length) := hn
  rw [← hn] at HR hc5 hPn ⊢
  have hni : (n : Int) ≤ 4097 := by omega
  have H0 : Hid (Own1 w2 w2 34 (.slice none 0 0) [] ∧ RwI six f [] false (nxt six P 0) ∧ ([] : List Sp).length ≤ 0) := ⟨Own1.nil _ _, by
    obtain ⟨h0, e⟩ := plcs_first hPl
    rw [nxt_at h0, e]; exact rw_start six f, by simp⟩
  clear hn hf hPl hP hb2
  go_wp2_with fail
  go_loopw [9, 10, 22] (fun u t q wr => ∃ (k : Nat) (R : List Sp) (o : Bool), k ≤ n ∧ q = .int .i64 k ∧ t = .bool o ∧ Hid (Own1 w2 wr 34 u R ∧ RwI six f R o (nxt six P k) ∧ R.length ≤ k)) (fun _ _ q _ => n - (Go.RowKit.intOf q).toNat)
  case atStart => exact ⟨0, [], false, by omega, rfl, rfl, H0⟩
  case round =>
    obtain ⟨k, R, o, hk, rfl, rfl, HI⟩ := hrel
    obtain ⟨hO, hI, hRk⟩ := HI.out
    have hh := HR.out _ hO.bl
    by_cases hlt : k < n
    · have hkz : k < P.length := by rw [← HN.out]; exact hlt
      obtain ⟨g1, i1, rfl, hg1, a0, a1⟩ := HasAds.cell hh k hkz
      have hki : (k : Int) < (n : Int) := by omega
      rw [nxt_at hkz] at hI
      obtain ⟨s1, s2, s3⟩ := plcs_step HPL.out HOA.out HOB.out hkz
      have hpt := plcs_le HPL.out HOA.out HOB.out hkz
      obtain ⟨p, hp⟩ : ∃ p, p = P[k] := ⟨_, rfl⟩
      rw [← hp] at hI s1 s3 hpt a0 a1
      have hcf : ∀ x, p ≤ x → x < nxt six P (k + 1) → f x = f p := fun x h1 h2 => by rw [HFF.out]; simp only; rw [(s3 x h1 h2).1, (s3 x h1 h2).2]
      have HNO : Hid (o = false → f p = false → RwI six f R false (nxt six P (k + 1))) := fun h1 h2 => by subst h1; exact rw_skip hI s1 hcf h2
      have HOP : Hid (o = false → f p = true → RwI six f (R ++ [(p, 0)]) true (nxt six P (k + 1))) := fun h1 h2 => by subst h1; exact rw_open hI s1 hcf h2
      have HKE : Hid (o = true → f p = true → RwI six f R true (nxt six P (k + 1))) := fun h1 h2 => by subst h1; exact rw_keep hI s1 hcf h2
      have HTL : Hid (o = true → ∃ A2 q, R = A2 ++ [(q, 0)]) := fun h1 => by subst h1; exact rw_tail hI
      have hp128 : p < 2 ^ 128 := by have := top_big six; omega
      have HSH : Hid (o = true → f p = false → ∀ A2 q, R = A2 ++ [(q, 0)] → RwI six f (A2 ++ [(q, p - 1)]) false (nxt six P (k + 1)) ∧ ∀ W, Calls Try.prog 73 #[.bool six, adV p] W fun e w' => e = .returned (.tuple #[adV (p - 1), .int .i64 0]) ∧ Below W.heap.size W w') := fun h1 h2 A2 q hR => by
        subst h1 hR
        refine ⟨rw_shut hI s1 hcf h2 hpt, fun W => ?_⟩
        obtain ⟨_, _, _, hqp, _⟩ := hI.2 rfl
        have := rprev_any six p W hp128
        rw [prev_in hpt (by omega)] at this
        exact this
      have cia := fun (W : World) (hq : HasSps W (Value.slice oa la ca) a) => rin_any a p _ W hq HFA.out hp128
      have cib := fun (W : World) (hq : HasSps W (Value.slice ob lb cb) b) => rin_any b p _ W hq HFB.out hp128
      have HFP : Hid (f p = how2 2 (inB a p) (inB b p)) := by show _ = _; rw [HFF.out]
      unfold adV at cia cib
      obtain ⟨x1, hx1⟩ : ∃ q, q = hiN p := ⟨_, rfl⟩
      obtain ⟨x2, hx2⟩ : ∃ q, q = loN p := ⟨_, rfl⟩
      have HE1 : Hid (hiN p = x1) := hx1.symm
      have HE2 : Hid (loN p = x2) := hx2.symm
      rw [← hx1, ← hx2] at cia cib
      rw [← hx1] at a0
      rw [← hx2] at a1
      clear hx1 hx2 hp hI hcf s1 s2 s3 hpt hp128 HI hkz
      go_upto_region 6 with fail
      obtain ⟨X, hX⟩ : ∃ X, X = wr.alloc (.cells #[.int .u64 (x1 : Int), .int .u64 (x2 : Int)] 25) := ⟨_, rfl⟩
      have hbX : Below wr.heap.size wr X := by rw [hX]; exact below_new (Below.refl _ _) _
      have rx : RowAt X wr.heap.size [.int .u64 (x1 : Int), .int .u64 (x2 : Int)] 25 := by rw [hX]; exact RowAt.new _ _ _
      rw [← hX]
      replace hO := hO.below hbX
      clear hX hbX a0 a1 hh hg1
      obtain ⟨gs, hgs⟩ : ∃ g, g = wr.heap.size := ⟨_, rfl⟩
      rw [← hgs] at rx ⊢
      clear hgs
      obtain ⟨hA1, hB1⟩ := HAB.out X (below2 HW2.out hO.bl)
      have m0 : ∀ p : Bl X, p.W.cell? ⟨gs, 0, none⟩ = some (.int .u64 (x1 : Int)) := fun p => (rx.below p.h).cell 0
      have m1 : ∀ p : Bl X, p.W.cell? ⟨gs, 1, none⟩ = some (.int .u64 (x2 : Int)) := fun p => (rx.below p.h).cell 1
      have c1 := fun p : Bl X => cia p.W (hA1.keep p.h)
      have c2 := fun p : Bl X => cib p.W (hB1.keep p.h)
      clear cia cib hA1 hB1
      generalize inB a p = IA at *
      generalize inB b p = IB at *
      haveI := bl_ne X
      refine wp_region_bl (by kernel_rfl) (by kernel_rfl) ?_
      repeat (go_big_quiet_step (first | (go_at_call 54; with_reducible exact bl_call (c1 _)) | (go_at_call 54; with_reducible exact bl_call (c2 _))))
      refine wpQuiet_nil ?_
      intro wq hw'
      obtain ⟨⟨wz, hq⟩, hw2⟩ := hw'
      subst hw2
      replace hO := hO.below hq
      replace rx := rx.below hq
      clear m0 m1 c1 c2 hq this
      cases IA
      · cases IB
        · have HF : Hid (f p = true) := HFP.out.trans rfl
          clear HFP
          cases o
          · have HA : Hid (RwI six f (R ++ [(p, 0)]) true (nxt six P (k + 1))) := HOP.out rfl HF.out
            obtain ⟨y0, y1, yf⟩ := cells2 rx
            obtain ⟨g3, cap3, w3, hrun, hO3, _⟩ := app_S hO (p, 0) (by omega)
            have HO : Hid (Own1 w2 w3 34 (.slice (some ⟨g3, 0, none⟩) (R ++ [(p, 0)]).length cap3) (R ++ [(p, 0)]) ∧ RwI six f (R ++ [(p, 0)]) true (nxt six P (k + 1)) ∧ R.length + 1 ≤ k + 1) := ⟨hO3, HA.out, by omega⟩
            clear hO3 hO HA rx HNO HOP HKE HSH HF
            simp only [HE1.out, HE2.out, hi0, lo0, hz0] at hrun
            generalize hmm : (R ++ [(p, 0)]).length = m at hrun HO
            clear hmm
            go_wp2_with fail
            go_roundw
            case rel => exact ⟨k + 1, R ++ [(p, 0)], true, by omega, by go_num, rfl, ⟨HO.out.1, HO.out.2.1, by rw [List.length_append]; exact HO.out.2.2⟩⟩
            case measure => simp [Go.RowKit.intOf]; omega
          · have HO : Hid (Own1 w2 wq 34 u9 R ∧ RwI six f R true (nxt six P (k + 1)) ∧ R.length ≤ k + 1) := ⟨hO, HKE.out rfl HF.out, by omega⟩
            clear HNO HOP HKE HSH hO rx HF
            go_wp2_with fail
            go_roundw
            case rel => exact ⟨k + 1, R, true, by omega, by go_num, rfl, HO⟩
            case measure => simp [Go.RowKit.intOf]; omega
        · have HF : Hid (f p = false) := HFP.out.trans rfl
          clear HFP
          cases o
          · have HO : Hid (Own1 w2 wq 34 u9 R ∧ RwI six f R false (nxt six P (k + 1)) ∧ R.length ≤ k + 1) := ⟨hO, HNO.out rfl HF.out, by omega⟩
            clear HNO HOP HKE HSH hO rx HF
            go_wp2_with fail
            go_roundw
            case rel => exact ⟨k + 1, R, false, by omega, by go_num, rfl, HO⟩
            case measure => simp [Go.RowKit.intOf]; omega
          · obtain ⟨A2, q, hR⟩ := HTL.out rfl
            subst hR
            obtain ⟨gr, c5, rfl, hc5, hc6, hg5, hg6⟩ := own_shape hO
            have HA : Hid (RwI six f (A2 ++ [(q, p - 1)]) false (nxt six P (k + 1))) := (HSH.out rfl HF.out _ _ rfl).1
            have cp := (HSH.out rfl HF.out _ _ rfl).2
            unfold adV at cp
            simp only [HE1.out, HE2.out] at cp
            have HZ : Hid (∀ (W Y : World), Own1 w2 W 34 (.slice (some ⟨gr, 0, none⟩) (A2.length + 1) c5) (A2 ++ [(q, 0)]) → Y = (W.setCell ⟨gr, A2.length * 4 + 2, none⟩ (.int .u64 (hiN (p - 1) : Int))).setCell ⟨gr, A2.length * 4 + 3, none⟩ (.int .u64 (loN (p - 1) : Int)) → Own1 w2 Y 34 (.slice (some ⟨gr, 0, none⟩) (A2.length + 1) c5) (A2 ++ [(q, p - 1)])) := fun W Y h hY => own_put4 h hg5 (p - 1) Y hY
            have hRl2 : A2.length + 1 ≤ 4098 := by have : (A2 ++ [(q, 0)]).length ≤ k := hRk; simp at this; omega
            have HRK : Hid (A2.length + 1 ≤ k) := by have : (A2 ++ [(q, 0)]).length ≤ k := hRk; simp at this; exact this
            obtain ⟨y0, y1, yf⟩ := cells2 rx
            obtain ⟨n2, hn2⟩ : ∃ n2, n2 = A2.length := ⟨_, rfl⟩
            have HP : Hid (n2 = A2.length) := hn2
            rw [← hn2] at HZ hc5 hRl2 hO ⊢
            clear hn2 HNO HOP HKE HSH HF hRk
            obtain ⟨za, hza⟩ : ∃ q, q = hiN (p - 1) := ⟨_, rfl⟩
            obtain ⟨zb, hzb⟩ : ∃ q, q = loN (p - 1) := ⟨_, rfl⟩
            have HZA : Hid (hiN (p - 1) = za) := hza.symm
            have HZB : Hid (loN (p - 1) = zb) := hzb.symm
            rw [← hza, ← hzb] at cp
            clear hza hzb
            have hp0 : decide ((n2 : Int) < 0) = false := decide_eq_false (by omega)
            have hpi : (n2 : Int) ≤ 4098 := by omega
            go_wp2_with fail
            go_at_call 73; refine (cp _).mono ?_; rintro e w5 ⟨rfl, hb⟩
            replace hO := hO.below hb
            clear rx y0 y1 yf cp
            obtain ⟨b9, i9, e9, hb9, _, _, z2, z3⟩ := HasSps.cell (W := w5) (o := some ⟨gr, 0, none⟩) (m := n2 + 1) (cap := c5) (l := A2 ++ [(q, 0)]) (by have := hO.has; exact this) A2.length (by simp)
            injection e9 with e9
            injection e9 with e91 e92
            subst e91 e92
            have hgz : (A2 ++ [(q, 0)])[A2.length]'(by simp) = (q, 0) := List.getElem_concat_length rfl _
            rw [Nat.zero_add, hgz, ← HP.out] at z2 z3
            clear hgz
            have hou := hO.ou
            have hle : (A2 ++ [((q, 0) : Sp)]).length = n2 + 1 := by rw [HP.out]; simp
            rw [hle] at hou
            clear hle
            have qf := hou.frozenAt
            clear hou hb
            obtain ⟨Y, hY⟩ : ∃ Y, Y = (w5.setCell ⟨gr, n2 * 4 + 2, none⟩ (.int .u64 (za : Int))).setCell ⟨gr, n2 * 4 + 3, none⟩ (.int .u64 (zb : Int)) := ⟨_, rfl⟩
            have hO2 := HZ.out w5 Y hO (by rw [hY, HZA.out, HZB.out])
            have HO : Hid (Own1 w2 Y 34 (.slice (some ⟨gr, 0, none⟩) (n2 + 1) c5) (A2 ++ [(q, p - 1)]) ∧ RwI six f (A2 ++ [(q, p - 1)]) false (nxt six P (k + 1)) ∧ (A2 ++ [(q, p - 1)]).length ≤ k + 1) := ⟨hO2, HA.out, by have := HRK.out; simp; omega⟩
            clear hO2 HA HZ hO HTL
            go_upto_region 14 with fail
            rw [← hY]
            clear hY z2 z3 qf
            go_wp2_with fail
            go_roundw
            case rel => exact ⟨k + 1, A2 ++ [(q, p - 1)], false, by omega, by go_num, rfl, HO⟩
            case measure => simp [Go.RowKit.intOf]; omega
      · cases IB
        · have HF : Hid (f p = false) := HFP.out.trans rfl
          clear HFP
          cases o
          · have HO : Hid (Own1 w2 wq 34 u9 R ∧ RwI six f R false (nxt six P (k + 1)) ∧ R.length ≤ k + 1) := ⟨hO, HNO.out rfl HF.out, by omega⟩
            clear HNO HOP HKE HSH hO rx HF
            go_wp2_with fail
            go_roundw
            case rel => exact ⟨k + 1, R, false, by omega, by go_num, rfl, HO⟩
            case measure => simp [Go.RowKit.intOf]; omega
          · obtain ⟨A2, q, hR⟩ := HTL.out rfl
            subst hR
            obtain ⟨gr, c5, rfl, hc5, hc6, hg5, hg6⟩ := own_shape hO
            have HA : Hid (RwI six f (A2 ++ [(q, p - 1)]) false (nxt six P (k + 1))) := (HSH.out rfl HF.out _ _ rfl).1
            have cp := (HSH.out rfl HF.out _ _ rfl).2
            unfold adV at cp
            simp only [HE1.out, HE2.out] at cp
            have HZ : Hid (∀ (W Y : World), Own1 w2 W 34 (.slice (some ⟨gr, 0, none⟩) (A2.length + 1) c5) (A2 ++ [(q, 0)]) → Y = (W.setCell ⟨gr, A2.length * 4 + 2, none⟩ (.int .u64 (hiN (p - 1) : Int))).setCell ⟨gr, A2.length * 4 + 3, none⟩ (.int .u64 (loN (p - 1) : Int)) → Own1 w2 Y 34 (.slice (some ⟨gr, 0, none⟩) (A2.length + 1) c5) (A2 ++ [(q, p - 1)])) := fun W Y h hY => own_put4 h hg5 (p - 1) Y hY
            have hRl2 : A2.length + 1 ≤ 4098 := by have : (A2 ++ [(q, 0)]).length ≤ k := hRk; simp at this; omega
            have HRK : Hid (A2.length + 1 ≤ k) := by have : (A2 ++ [(q, 0)]).length ≤ k := hRk; simp at this; exact this
            obtain ⟨y0, y1, yf⟩ := cells2 rx
            obtain ⟨n2, hn2⟩ : ∃ n2, n2 = A2.length := ⟨_, rfl⟩
            have HP : Hid (n2 = A2.length) := hn2
            rw [← hn2] at HZ hc5 hRl2 hO ⊢
            clear hn2 HNO HOP HKE HSH HF hRk
            obtain ⟨za, hza⟩ : ∃ q, q = hiN (p - 1) := ⟨_, rfl⟩
            obtain ⟨zb, hzb⟩ : ∃ q, q = loN (p - 1) := ⟨_, rfl⟩
            have HZA : Hid (hiN (p - 1) = za) := hza.symm
            have HZB : Hid (loN (p - 1) = zb) := hzb.symm
            rw [← hza, ← hzb] at cp
            clear hza hzb
            have hp0 : decide ((n2 : Int) < 0) = false := decide_eq_false (by omega)
            have hpi : (n2 : Int) ≤ 4098 := by omega
            go_wp2_with fail
            go_at_call 73; refine (cp _).mono ?_; rintro e w5 ⟨rfl, hb⟩
            replace hO := hO.below hb
            clear rx y0 y1 yf cp
            obtain ⟨b9, i9, e9, hb9, _, _, z2, z3⟩ := HasSps.cell (W := w5) (o := some ⟨gr, 0, none⟩) (m := n2 + 1) (cap := c5) (l := A2 ++ [(q, 0)]) (by have := hO.has; exact this) A2.length (by simp)
            injection e9 with e9
            injection e9 with e91 e92
            subst e91 e92
            have hgz : (A2 ++ [(q, 0)])[A2.length]'(by simp) = (q, 0) := List.getElem_concat_length rfl _
            rw [Nat.zero_add, hgz, ← HP.out] at z2 z3
            clear hgz
            have hou := hO.ou
            have hle : (A2 ++ [((q, 0) : Sp)]).length = n2 + 1 := by rw [HP.out]; simp
            rw [hle] at hou
            clear hle
            have qf := hou.frozenAt
            clear hou hb
            obtain ⟨Y, hY⟩ : ∃ Y, Y = (w5.setCell ⟨gr, n2 * 4 + 2, none⟩ (.int .u64 (za : Int))).setCell ⟨gr, n2 * 4 + 3, none⟩ (.int .u64 (zb : Int)) := ⟨_, rfl⟩
            have hO2 := HZ.out w5 Y hO (by rw [hY, HZA.out, HZB.out])
            have HO : Hid (Own1 w2 Y 34 (.slice (some ⟨gr, 0, none⟩) (n2 + 1) c5) (A2 ++ [(q, p - 1)]) ∧ RwI six f (A2 ++ [(q, p - 1)]) false (nxt six P (k + 1)) ∧ (A2 ++ [(q, p - 1)]).length ≤ k + 1) := ⟨hO2, HA.out, by have := HRK.out; simp; omega⟩
            clear hO2 HA HZ hO HTL
            go_upto_region 14 with fail
            rw [← hY]
            clear hY z2 z3 qf
            go_wp2_with fail
            go_roundw
            case rel => exact ⟨k + 1, A2 ++ [(q, p - 1)], false, by omega, by go_num, rfl, HO⟩
            case measure => simp [Go.RowKit.intOf]; omega
        · have HF : Hid (f p = false) := HFP.out.trans rfl
          clear HFP
          cases o
          · have HO : Hid (Own1 w2 wq 34 u9 R ∧ RwI six f R false (nxt six P (k + 1)) ∧ R.length ≤ k + 1) := ⟨hO, HNO.out rfl HF.out, by omega⟩
            clear HNO HOP HKE HSH hO rx HF
            go_wp2_with fail
            go_roundw
            case rel => exact ⟨k + 1, R, false, by omega, by go_num, rfl, HO⟩
            case measure => simp [Go.RowKit.intOf]; omega
          · obtain ⟨A2, q, hR⟩ := HTL.out rfl
            subst hR
            obtain ⟨gr, c5, rfl, hc5, hc6, hg5, hg6⟩ := own_shape hO
            have HA : Hid (RwI six f (A2 ++ [(q, p - 1)]) false (nxt six P (k + 1))) := (HSH.out rfl HF.out _ _ rfl).1
            have cp := (HSH.out rfl HF.out _ _ rfl).2
            unfold adV at cp
            simp only [HE1.out, HE2.out] at cp
            have HZ : Hid (∀ (W Y : World), Own1 w2 W 34 (.slice (some ⟨gr, 0, none⟩) (A2.length + 1) c5) (A2 ++ [(q, 0)]) → Y = (W.setCell ⟨gr, A2.length * 4 + 2, none⟩ (.int .u64 (hiN (p - 1) : Int))).setCell ⟨gr, A2.length * 4 + 3, none⟩ (.int .u64 (loN (p - 1) : Int)) → Own1 w2 Y 34 (.slice (some ⟨gr, 0, none⟩) (A2.length + 1) c5) (A2 ++ [(q, p - 1)])) := fun W Y h hY => own_put4 h hg5 (p - 1) Y hY
            have hRl2 : A2.length + 1 ≤ 4098 := by have : (A2 ++ [(q, 0)]).length ≤ k := hRk; simp at this; omega
            have HRK : Hid (A2.length + 1 ≤ k) := by have : (A2 ++ [(q, 0)]).length ≤ k := hRk; simp at this; exact this
            obtain ⟨y0, y1, yf⟩ := cells2 rx
            obtain ⟨n2, hn2⟩ : ∃ n2, n2 = A2.length := ⟨_, rfl⟩
            have HP : Hid (n2 = A2.length) := hn2
            rw [← hn2] at HZ hc5 hRl2 hO ⊢
            clear hn2 HNO HOP HKE HSH HF hRk
            obtain ⟨za, hza⟩ : ∃ q, q = hiN (p - 1) := ⟨_, rfl⟩
            obtain ⟨zb, hzb⟩ : ∃ q, q = loN (p - 1) := ⟨_, rfl⟩
            have HZA : Hid (hiN (p - 1) = za) := hza.symm
            have HZB : Hid (loN (p - 1) = zb) := hzb.symm
            rw [← hza, ← hzb] at cp
            clear hza hzb
            have hp0 : decide ((n2 : Int) < 0) = false := decide_eq_false (by omega)
            have hpi : (n2 : Int) ≤ 4098 := by omega
            go_wp2_with fail
            go_at_call 73; refine (cp _).mono ?_; rintro e w5 ⟨rfl, hb⟩
            replace hO := hO.below hb
            clear rx y0 y1 yf cp
            obtain ⟨b9, i9, e9, hb9, _, _, z2, z3⟩ := HasSps.cell (W := w5) (o := some ⟨gr, 0, none⟩) (m := n2 + 1) (cap := c5) (l := A2 ++ [(q, 0)]) (by have := hO.has; exact this) A2.length (by simp)
            injection e9 with e9
            injection e9 with e91 e92
            subst e91 e92
            have hgz : (A2 ++ [(q, 0)])[A2.length]'(by simp) = (q, 0) := List.getElem_concat_length rfl _
            rw [Nat.zero_add, hgz, ← HP.out] at z2 z3
            clear hgz
            have hou := hO.ou
            have hle : (A2 ++ [((q, 0) : Sp)]).length = n2 + 1 := by rw [HP.out]; simp
            rw [hle] at hou
            clear hle
            have qf := hou.frozenAt
            clear hou hb
            obtain ⟨Y, hY⟩ : ∃ Y, Y = (w5.setCell ⟨gr, n2 * 4 + 2, none⟩ (.int .u64 (za : Int))).setCell ⟨gr, n2 * 4 + 3, none⟩ (.int .u64 (zb : Int)) := ⟨_, rfl⟩
            have hO2 := HZ.out w5 Y hO (by rw [hY, HZA.out, HZB.out])
            have HO : Hid (Own1 w2 Y 34 (.slice (some ⟨gr, 0, none⟩) (n2 + 1) c5) (A2 ++ [(q, p - 1)]) ∧ RwI six f (A2 ++ [(q, p - 1)]) false (nxt six P (k + 1)) ∧ (A2 ++ [(q, p - 1)]).length ≤ k + 1) := ⟨hO2, HA.out, by have := HRK.out; simp; omega⟩
            clear hO2 HA HZ hO HTL
            go_upto_region 14 with fail
            rw [← hY]
            clear hY z2 z3 qf
            go_wp2_with fail
            go_roundw
            case rel => exact ⟨k + 1, A2 ++ [(q, p - 1)], false, by omega, by go_num, rfl, HO⟩
            case measure => simp [Go.RowKit.intOf]; omega
    · have hkn : decide ((k : Int) < (n : Int)) = false := decide_eq_false (by omega)
      have hke : k = P.length := by rw [← HN.out]; omega
      rw [hke, nxt_end] at hI
      have hR4 : R.length ≤ 4098 := by omega
      clear HI hh hke
      cases o
      · have hE := rw_end0 hI
        have HF : Hid (Own1 w wr 34 u9 R ∧ Row six R ∧ (∀ x, inB R x = true ↔ (how2 2 (inB a x) (inB b x) = true ∧ x ≤ topN six)) ∧ R.length ≤ 4098) := ⟨hO.to HW2.out, hE.1, fun x => by rw [hE.2, HFF.out], hR4⟩
        clear hE hI hO
        go_wp2_with fail
        go_ret
        exact ⟨_, R, rfl, HF.out.1, HF.out.2.1, HF.out.2.2.1, HF.out.2.2.2⟩
      · have HTL : Hid (∃ A2 q, R = A2 ++ [(q, 0)]) := rw_tail hI
        obtain ⟨A2, q, hR⟩ := HTL.out
        subst hR
        obtain ⟨gr, c5, rfl, hc5, hc6, hg5, hg6⟩ := own_shape hO
        have hE := rw_end1 hI
        have HZ : Hid (∀ (W Y : World), Own1 w2 W 34 (.slice (some ⟨gr, 0, none⟩) (A2.length + 1) c5) (A2 ++ [(q, 0)]) → Y = (W.setCell ⟨gr, A2.length * 4 + 2, none⟩ (.int .u64 (hiN (topN six) : Int))).setCell ⟨gr, A2.length * 4 + 3, none⟩ (.int .u64 (loN (topN six) : Int)) → Own1 w2 Y 34 (.slice (some ⟨gr, 0, none⟩) (A2.length + 1) c5) (A2 ++ [(q, topN six)])) := fun W Y h hY => own_put4 h hg5 (topN six) Y hY
        have cl := fun W => rlast_any ⟨six, 0, 0⟩ W (show (-9223372036854775808 : Int) ≤ 0 ∧ (0 : Int) ≤ 9223372036854775807 by decide) (show 0 < 2 ^ 128 by decide)
        rw [last_six] at cl
        unfold pfV adV at cl
        simp only [hi0, lo0, hz0] at cl
        have hRl2 : A2.length + 1 ≤ 4098 := by simp at hR4; omega
        have HD2 : Hid (∀ W', Own1 w2 W' 34 (.slice (some ⟨gr, 0, none⟩) (A2.length + 1) c5) (A2 ++ [(q, topN six)]) → Own1 w W' 34 (.slice (some ⟨gr, 0, none⟩) (A2.length + 1) c5) (A2 ++ [(q, topN six)]) ∧ Row six (A2 ++ [(q, topN six)]) ∧ (∀ x, inB (A2 ++ [(q, topN six)]) x = true ↔ (how2 2 (inB a x) (inB b x) = true ∧ x ≤ topN six)) ∧ (A2 ++ [(q, topN six)]).length ≤ 4098) := fun W' h => ⟨h.to HW2.out, hE.1, fun x => by rw [hE.2, HFF.out], by simp at hR4 ⊢; omega⟩
        obtain ⟨n2, hn2⟩ : ∃ n2, n2 = A2.length := ⟨_, rfl⟩
        have HP : Hid (n2 = A2.length) := hn2
        rw [← hn2] at HZ HD2 hc5 hRl2 hO ⊢
        clear hn2 hE hI
        obtain ⟨za, hza⟩ : ∃ q, q = hiN (topN six) := ⟨_, rfl⟩
        obtain ⟨zb, hzb⟩ : ∃ q, q = loN (topN six) := ⟨_, rfl⟩
        have HZA : Hid (hiN (topN six) = za) := hza.symm
        have HZB : Hid (loN (topN six) = zb) := hzb.symm
        rw [← hza, ← hzb] at cl
        clear hza hzb
        have hp0 : decide ((n2 : Int) < 0) = false := decide_eq_false (by omega)
        have hpi : (n2 : Int) ≤ 4098 := by omega
        go_wp2_with fail
        go_at_call 41; refine (cl _).mono ?_; rintro e w5 ⟨rfl, hb⟩
        replace hO := hO.below hb
        clear cl
        obtain ⟨b9, i9, e9, hb9, _, _, z2, z3⟩ := HasSps.cell (W := w5) (o := some ⟨gr, 0, none⟩) (m := n2 + 1) (cap := c5) (l := A2 ++ [(q, 0)]) (by have := hO.has; exact this) A2.length (by simp)
        injection e9 with e9
        injection e9 with e91 e92
        subst e91 e92
        have hgz : (A2 ++ [(q, 0)])[A2.length]'(by simp) = (q, 0) := List.getElem_concat_length rfl _
        rw [Nat.zero_add, hgz, ← HP.out] at z2 z3
        clear hgz
        have hou := hO.ou
        have hle : (A2 ++ [((q, 0) : Sp)]).length = n2 + 1 := by rw [HP.out]; simp
        rw [hle] at hou
        clear hle
        have qf := hou.frozenAt
        clear hou hb
        obtain ⟨Y, hY⟩ : ∃ Y, Y = (w5.setCell ⟨gr, n2 * 4 + 2, none⟩ (.int .u64 (za : Int))).setCell ⟨gr, n2 * 4 + 3, none⟩ (.int .u64 (zb : Int)) := ⟨_, rfl⟩
        have hO2 := HZ.out w5 Y hO (by rw [hY, HZA.out, HZB.out])
        have HF := HD2.out Y hO2
        have HF : Hid _ := HF
        clear hO2 HZ HD2 hO HTL
        go_upto_region 20 with fail
        rw [← hY]
        clear hY z2 z3 qf
        go_wp2_with fail
        go_ret
        exact ⟨_, _, rfl, HF.out.1, HF.out.2.1, HF.out.2.2.1, HF.out.2.2.2⟩
end Go.Proofs.Ytiemlaehhmlhmaa.Sp
namespace Go.Proofs.Ytiemlaehhmlhmaa.Sp
open Go.RowKit Go.Shelf
open Go.Proofs.Ytiemlaehhmlhmaa.Lk (HasRow hasRow_own addr_add)
open Go.Proofs.Ytiemlaehhmlhmaa.Addr (wideN rightB hiN loN adV cmpN RowAt below2 below_drew below_new bset)
theorem PlcC.keep {six : Bool} {a b : List Sp} {va vb : Value} {w W : World} (h : PlcC six a b va vb w) (hb : Below w.heap.size w W) : PlcC six a b va vb W := fun V hV => h V (below2 hb hV)
theorem rowh_any (h : Nat) (hh : h ≤ 2) (six : Bool) (a b : List Sp) (va vb : Value) (w : World) (ha : HasSps w va a) (hb : HasSps w vb b) (hoa : ∀ s ∈ a, okS six s = true) (hob : ∀ s ∈ b, okS six s = true) (hpl : PlcC six a b va vb w) :
    Calls Try.prog 40 #[.bool six, .int .i64 (h : Int), va, vb] w fun e w' => ∃ u R, e = .returned u ∧ Own1 w w' 34 u R ∧ Row six R ∧ (∀ x, inB R x = true ↔ (how2 h (inB a x) (inB b x) = true ∧ x ≤ topN six)) ∧ R.length ≤ 4098 := by
  have : h = 0 ∨ h = 1 ∨ h = 2 := by omega
  rcases this with rfl | rfl | rfl
  · exact row0_any six a b va vb w ha hb hoa hob hpl
  · exact row1_any six a b va vb w ha hb hoa hob hpl
  · exact row2_any six a b va vb w ha hb hoa hob hpl
/-- two answers of one set are the same -/
theorem row_same {six : Bool} {R S : List Sp} {m m2 : Nat → Bool} (h1 : Row six R) (h2 : ∀ x, inB R x = m x) (h3 : Row six S) (h4 : ∀ x, inB S x = m2 x) (hm : ∀ x, m x = m2 x) : R = S := row_ext h1 h3 (fun x => by rw [h2, h4, hm])
theorem ans_same {six : Bool} {w w' v v' : World} {ok : Bool} {bad : Int} {m m2 : Nat → Bool} {b1 b2 : Nat} {e e2 : Ending} (h : AnsIs six w ok bad m b1 e w') (g : AnsIs six v ok bad m2 b2 e2 v') (hm : ∀ x, m x = m2 x) :
    ∃ u u2 R, ∃ why : Int, e = .returned (.tuple #[u, .int .i64 why]) ∧ e2 = .returned (.tuple #[u2, .int .i64 why]) ∧ Own1 w w' 34 u R ∧ Own1 v v' 34 u2 R := by
  obtain ⟨u, R, y, e1, o1, p1, q1⟩ := h
  obtain ⟨u2, S, z, e2, o2, p2, q2⟩ := g
  cases ok
  · obtain ⟨a1, a2⟩ := p1 rfl
    obtain ⟨b1, b2⟩ := p2 rfl
    subst a1 a2 b1 b2
    exact ⟨u, u2, [], _, e1, e2, o1, o2⟩
  · rcases q1 rfl with ⟨a1, a2, a3, a4, _⟩ | ⟨a1, a2, L, a3, a4, a5, _⟩ <;> rcases q2 rfl with ⟨c1, c2, c3, c4, _⟩ | ⟨c1, c2, L2, c3, c4, c5, _⟩
    · have := row_same a2 a3 c2 c3 hm
      subst a1 c1 this
      exact ⟨u, u2, R, 0, e1, e2, o1, o2⟩
    · have := row_same a2 a3 c3 c4 hm
      subst this
      omega
    · have := row_same a3 a4 c2 c3 hm
      subst this
      omega
    · subst a1 a2 c1 c2
      exact ⟨u, u2, [], 11, e1, e2, o1, o2⟩
set_option maxHeartbeats 4000000 in
theorem rset_any (h : Nat) (hh : h ≤ 2) (six : Bool) (a b : List Sp) (va vb : Value) (w : World) (ha : HasSps w va a) (hb : HasSps w vb b) (hfa : ∀ s ∈ a, FitS s) (hfb : ∀ s ∈ b, FitS s) (hpl : okB six a = true → okB six b = true → PlcC six a b va vb w) :
    Calls Try.prog 47 #[.bool six, .int .i64 (h : Int), va, vb] w (AnsIs six w (okB six a && okB six b) 2 (fun x => how2 h (inB a x) (inB b x) && decide (x ≤ topN six)) 4098) := by
  obtain ⟨m, hm⟩ : ∃ m, m = (fun x => how2 h (inB a x) (inB b x) && decide (x ≤ topN six)) := ⟨_, rfl⟩
  rw [← hm]
  have ca := rchk_any six a va w ha hfa
  have cb := fun (W : World) (hq : Below w.heap.size w W) => rchk_any six b vb W (hb.keep hq) hfb
  have HROW : Hid (okB six a = true → okB six b = true → ∀ W, Below w.heap.size w W → Calls Try.prog 40 #[.bool six, .int .i64 (h : Int), va, vb] W fun e w' => ∃ u R, e = .returned u ∧ Own1 W w' 34 u R ∧ Row six R ∧ (∀ x, inB R x = m x) ∧ R.length ≤ 4098) := fun h1 h2 W hq => by
    refine (rowh_any h hh six a b va vb W (ha.keep hq) (hb.keep hq) (okB_iff.1 h1).2.1 (okB_iff.1 h2).2.1 ((hpl h1 h2).keep hq)).mono ?_
    rintro e w' ⟨u, R, e1, h3, h4, h5, h6⟩
    refine ⟨u, R, e1, h3, h4, fun x => ?_, h6⟩
    rw [hm, Bool.eq_iff_iff, h5, Bool.and_eq_true, decide_eq_true_iff]
  obtain ⟨oa, cca, rfl, _, _⟩ := HasRow.slice ha
  obtain ⟨ob, ccb, rfl, _, _⟩ := HasRow.slice hb
  generalize okB six a = A at *
  generalize okB six b = B at *
  clear hm hpl ha hb hfa hfb hh
  obtain ⟨va, hva⟩ : ∃ q, q = a.length := ⟨_, rfl⟩
  obtain ⟨vb, hvb⟩ : ∃ q, q = b.length := ⟨_, rfl⟩
  rw [← hva] at ca HROW ⊢
  rw [← hvb] at cb HROW ⊢
  clear hva hvb
  go_enter Try.func47, Try.ntmps47
  go_wp2_with fail
  go_at_call 17; refine ca.mono ?_; rintro e w2 ⟨rfl, hb2⟩
  cases A
  · clear HROW cb ca
    unfold chk
    go_wp2_with fail
    go_ret2
    exact ans_bad hb2
  · unfold chk at cb ⊢
    go_wp2_with fail
    go_at_call 17; refine (cb _ hb2).mono ?_; rintro e w3 ⟨rfl, hb3⟩
    replace hb2 := below2 hb2 hb3
    cases B
    · clear HROW cb ca hb3
      go_wp2_with fail
      go_ret2
      exact ans_bad hb2
    · have cr := HROW.out (by first | rfl | trivial) (by first | rfl | trivial) w3 hb2
      clear HROW cb ca hb3
      go_wp2_with fail
      go_at_call 40; refine cr.mono ?_; rintro e w4 ⟨u, R, rfl, hO, h1, h2, h3⟩
      clear cr
      have hbl := below2 hb2 hO.bl
      have hO := hO.to hb2
      obtain ⟨o5, c5, rfl, hc5, hc6⟩ := HasRow.slice hO.has
      by_cases hl : R.length ≤ 1024
      · have HA : Hid (AnsIs six w true 2 m 4098 (.returned (.tuple #[.slice o5 R.length c5, .int .i64 0])) w4) := ans_ok hO h1 h2 hl h3
        have hq1 : decide ((1024 : Int) < (R.length : Int)) = false := decide_eq_false (by omega)
        have hq2 : decide (1024 < R.length) = false := decide_eq_false (by omega)
        generalize R.length = n at *
        clear hO h1 h2 hl h3 hb2 hbl
        go_wp2_with fail
        go_ret2
        exact HA.out
      · have HA : Hid (AnsIs six w true 2 m 4098 (.returned (.tuple #[.slice none 0 0, .int .i64 11])) w4) := ans_long hbl h1 h2 (by omega) h3
        have hq1 : decide ((1024 : Int) < (R.length : Int)) = true := decide_eq_true (by omega)
        have hq2 : decide (1024 < R.length) = true := decide_eq_true (by omega)
        generalize R.length = n at *
        clear hO h1 h2 hl h3 hb2 hbl
        go_wp2_with fail
        go_ret2
        exact HA.out
end Go.Proofs.Ytiemlaehhmlhmaa.Sp
namespace Go.Proofs.Ytiemlaehhmlhmaa.Sp
open Go.RowKit Go.Shelf
open Go.Proofs.Ytiemlaehhmlhmaa.Lk (HasRow hasRow_own addr_add)
theorem ror10_any (six : Bool) (a b : List Sp) (va vb : Value) (w : World) (ha : HasSps w va a) (hb : HasSps w vb b) (hfa : ∀ s ∈ a, FitS s) (hfb : ∀ s ∈ b, FitS s) (hpl : okB six a = true → okB six b = true → PlcC six a b va vb w) :
    Calls Try.prog 19 #[.bool six, va, vb] w (AnsIs six w (okB six a && okB six b) 2 (fun x => how2 0 (inB a x) (inB b x) && decide (x ≤ topN six)) 4098) := by
  have cs := rset_any 0 (by omega) six a b va vb w ha hb hfa hfb hpl
  obtain ⟨oa, cca, rfl, _, _⟩ := HasRow.slice ha
  obtain ⟨ob, ccb, rfl, _, _⟩ := HasRow.slice hb
  generalize (fun x => how2 0 (inB a x) (inB b x) && decide (x ≤ topN six)) = m at *
  generalize (okB six a && okB six b) = A at *
  clear ha hb hfa hfb hpl
  generalize a.length = la at *
  generalize b.length = lb at *
  go_enter Try.func19, Try.ntmps19
  go_wp2_with fail
  go_at_call 47; refine cs.mono ?_; rintro e w2 h
  obtain ⟨u, R, why, e1, hr⟩ := h
  subst e1
  have HA : Hid (AnsIs six w A 2 m 4098 (.returned (.tuple #[u, .int .i64 why])) w2) := ⟨u, R, why, rfl, hr⟩
  clear hr cs
  go_wp2_with fail
  go_ret2
  exact HA.out
theorem rand10_any (six : Bool) (a b : List Sp) (va vb : Value) (w : World) (ha : HasSps w va a) (hb : HasSps w vb b) (hfa : ∀ s ∈ a, FitS s) (hfb : ∀ s ∈ b, FitS s) (hpl : okB six a = true → okB six b = true → PlcC six a b va vb w) :
    Calls Try.prog 21 #[.bool six, va, vb] w (AnsIs six w (okB six a && okB six b) 2 (fun x => how2 1 (inB a x) (inB b x) && decide (x ≤ topN six)) 4098) := by
  have cs := rset_any 1 (by omega) six a b va vb w ha hb hfa hfb hpl
  obtain ⟨oa, cca, rfl, _, _⟩ := HasRow.slice ha
  obtain ⟨ob, ccb, rfl, _, _⟩ := HasRow.slice hb
  generalize (fun x => how2 1 (inB a x) (inB b x) && decide (x ≤ topN six)) = m at *
  generalize (okB six a && okB six b) = A at *
  clear ha hb hfa hfb hpl
  generalize a.length = la at *
  generalize b.length = lb at *
  go_enter Try.func21, Try.ntmps21
  go_wp2_with fail
  go_at_call 47; refine cs.mono ?_; rintro e w2 h
  obtain ⟨u, R, why, e1, hr⟩ := h
  subst e1
  have HA : Hid (AnsIs six w A 2 m 4098 (.returned (.tuple #[u, .int .i64 why])) w2) := ⟨u, R, why, rfl, hr⟩
  clear hr cs
  go_wp2_with fail
  go_ret2
  exact HA.out
theorem rnot10_any (six : Bool) (a : List Sp) (va : Value) (w : World) (ha : HasSps w va a) (hfa : ∀ s ∈ a, FitS s) (hpl : okB six a = true → PlcC six a [] va (.slice none 0 0) w) :
    Calls Try.prog 23 #[.bool six, va] w (AnsIs six w (okB six a && okB six []) 2 (fun x => how2 2 (inB a x) (inB [] x) && decide (x ≤ topN six)) 4098) := by
  have cs := rset_any 2 (by omega) six a [] va (.slice none 0 0) w ha (hasSps_nil w) hfa (by simp) (fun h _ => hpl h)
  obtain ⟨oa, cca, rfl, _, _⟩ := HasRow.slice ha
  generalize (fun x => how2 2 (inB a x) (inB [] x) && decide (x ≤ topN six)) = m at *
  generalize (okB six a && okB six []) = A at *
  clear ha hfa hpl
  generalize a.length = la at *
  go_enter Try.func23, Try.ntmps23
  go_wp2_with fail
  go_at_call 47; refine cs.mono ?_; rintro e w2 h
  obtain ⟨u, R, why, e1, hr⟩ := h
  subst e1
  have HA : Hid (AnsIs six w A 2 m 4098 (.returned (.tuple #[u, .int .i64 why])) w2) := ⟨u, R, why, rfl, hr⟩
  clear hr cs
  go_wp2_with fail
  go_ret2
  exact HA.out
end Go.Proofs.Ytiemlaehhmlhmaa.Sp
namespace Go.Proofs.Ytiemlaehhmlhmaa.Sp
open Go.RowKit Go.Shelf
open Go.Proofs.Ytiemlaehhmlhmaa.Lk (HasRow hasRow_own addr_add)
open Go.Proofs.Ytiemlaehhmlhmaa.Addr (wideN rightB hiN loN adV cmpN RowAt below2 below_drew below_new bset RowAt.lt RowAt.cell RowAt.frozen RowAt.below RowAt.drew RowAt.new RowAt.alloc cells2 cells4)
/-- a row is answered, or none -/
def MkIs (six : Bool) (w : World) (ok : Bool) (m : Nat → Bool) (e : Ending) (w' : World) : Prop := ∃ u R, ∃ why : Int, e = .returned (.tuple #[u, .int .i64 why]) ∧ Own1 w w' 34 u R ∧ (ok = false → why = 2 ∧ R = []) ∧ (ok = true → why = 0 ∧ Row six R ∧ ∀ x, inB R x = m x)
set_option maxHeartbeats 4000000 in
set_option maxRecDepth 20000 in
theorem rmake10_any (six : Bool) (l : List Sp) (v : Value) (w : World) (h : HasSps w v l) (hf : ∀ s ∈ l, FitS s) (hlen : l.length ≤ 1024) (hpl : (∀ s ∈ l, okS six s = true) → PlcC six l [] v (.slice none 0 0) w) :
    Calls Try.prog 12 #[.bool six, v] w (MkIs six w (l.all (okS six)) (fun x => how2 0 (inB l x) (inB [] x) && decide (x ≤ topN six))) := by
  obtain ⟨m, hm⟩ : ∃ m, m = (fun x => how2 0 (inB l x) (inB [] x) && decide (x ≤ topN six)) := ⟨_, rfl⟩
  rw [← hm]
  have HROW : Hid ((∀ s ∈ l, okS six s = true) → ∀ W, Below w.heap.size w W → Calls Try.prog 40 #[.bool six, .int .i64 0, v, .slice none 0 0] W fun e w' => ∃ u R, e = .returned u ∧ Own1 W w' 34 u R ∧ Row six R ∧ (∀ x, inB R x = m x)) := fun h1 W hq => by
    refine (row0_any six l [] v (.slice none 0 0) W (h.keep hq) (hasSps_nil W) h1 (by simp) ((hpl h1).keep hq)).mono ?_
    rintro e w' ⟨u, R, e1, h3, h4, h5, h6⟩
    refine ⟨u, R, e1, h3, h4, fun x => ?_⟩
    rw [hm, Bool.eq_iff_iff, h5, Bool.and_eq_true, decide_eq_true_iff]
  obtain ⟨o, c, rfl, hc1, hc2⟩ := HasRow.slice h
  have HR : Hid (∀ wr : World, Below w.heap.size w wr → HasSps wr (.slice o l.length c) l) := fun wr hb => h.keep hb
  have HF : Hid (∀ s ∈ l, FitS s) := hf
  have hq1 : decide ((1024 : Int) < (l.length : Int)) = false := decide_eq_false (by omega)
  have hq2 : decide (1024 < l.length) = false := decide_eq_false (by omega)
  obtain ⟨ok, hok⟩ : ∃ ok, ok = l.all (okS six) := ⟨_, rfl⟩
  have HO1 : Hid ((∀ s ∈ l, okS six s = true) → ok = true) := fun hs => by rw [hok]; exact List.all_eq_true.2 hs
  have HO2 : Hid (∀ (k : Nat) (hk : k < l.length), okS six l[k] = false → ok = false) := fun k hk hs => by rw [hok, List.all_eq_false]; exact ⟨_, List.getElem_mem hk, by rw [hs]; simp⟩
  rw [← hok]
  obtain ⟨n, hn⟩ : ∃ n, n = l.length := ⟨_, rfl⟩
  have HN : Hid (n = l.length) := hn
  rw [← hn] at HR HROW hc1 hq1 hq2 hlen ⊢
  have hni : (n : Int) ≤ 1024 := by omega
  clear h hn hok hf hpl hm
  go_enter Try.func12, Try.ntmps12
  go_wp2_with fail
  go_loopw [13] (fun i wr => ∃ k : Nat, k ≤ n ∧ i = .int .i64 k ∧ Below w.heap.size w wr ∧ Hid (∀ s ∈ l.take k, okS six s = true)) (fun i _ => n - (intOf i).toNat)
  case atStart => exact ⟨0, by omega, rfl, Below.refl _ _, by rw [List.take_zero]; exact (by intro s hs; cases hs)⟩
  case round =>
    obtain ⟨k, hk, rfl, hB, HG⟩ := hrel
    have hh := HR.out _ hB
    by_cases hlt : k < n
    · have hkz : k < l.length := by rw [← HN.out]; exact hlt
      obtain ⟨g1, i1, rfl, hg1, a0, a1, a2, a3⟩ := HasSps.cell hh k hkz
      have hfk := HF.out _ (List.getElem_mem hkz)
      have cr := fun (W : World) => rone_any six l[k] W hfk
      have hki : (k : Int) < (n : Int) := by omega
      have HB1 : Hid (okS six l[k] = false → ok = false) := HO2.out k hkz
      have HB2 : Hid (okS six l[k] = true → ∀ s ∈ l.take (k + 1), okS six s = true) := fun h s hs => by
        rw [List.take_succ_eq_append_getElem hkz] at hs
        rcases List.mem_append.1 hs with hs | hs
        · exact HG.out s hs
        · rw [List.mem_singleton.1 hs]; exact h
      unfold spV at cr
      generalize okS six l[k] = B1 at cr HB1 HB2
      obtain ⟨sk, hsk⟩ : ∃ sk, sk = l[k] := ⟨_, rfl⟩
      rw [← hsk] at a0 a1 a2 a3 cr
      obtain ⟨s1, s2⟩ := sk
      clear hsk hfk HG
      simp only at a0 a1 a2 a3 cr
      generalize hiN s1 = ka at *
      generalize loN s1 = kb at *
      generalize hiN s2 = kc at *
      generalize loN s2 = kd at *
      go_upto_region 6 with fail
      obtain ⟨X, hX⟩ : ∃ X, X = wr.alloc (.cells #[.int .u64 (ka : Int), .int .u64 (kb : Int), .int .u64 (kc : Int), .int .u64 (kd : Int)] 34) := ⟨_, rfl⟩
      have hbX : Below wr.heap.size wr X := by rw [hX]; exact below_new (Below.refl _ _) _
      have rk : RowAt X wr.heap.size [.int .u64 (ka : Int), .int .u64 (kb : Int), .int .u64 (kc : Int), .int .u64 (kd : Int)] 34 := by rw [hX]; exact RowAt.new _ _ _
      rw [← hX]
      have hBX := below2 hB hbX
      clear hX hbX hh
      obtain ⟨gs, hgs⟩ : ∃ g, g = wr.heap.size := ⟨_, rfl⟩
      rw [← hgs] at rk ⊢
      clear hgs a0 a1 a2 a3 hg1 hB
      obtain ⟨x0, x1, x2, x3, xf⟩ := cells4 rk
      go_wp2_with fail
      go_at_call 39; refine (cr _).mono ?_; rintro e w2 ⟨rfl, hb⟩
      replace hBX := below2 hBX hb
      clear x0 x1 x2 x3 xf hb cr rk
      cases B1
      · have HV : Hid (ok = false) := HB1.out rfl
        have HA : Hid (MkIs six w ok m (.returned (.tuple #[.slice none 0 0, .int .i64 2])) w2) := ⟨.slice none 0 0, [], 2, rfl, ⟨World.ownsRow_nil _ _ _ _, hBX⟩, fun _ => ⟨rfl, rfl⟩, fun h => absurd (h.symm.trans HV.out) (by decide)⟩
        clear HB1 HB2 HO1 HO2 HROW
        go_wp2_with fail
        go_ret2
        exact HA.out
      · have HS : Hid (∀ s ∈ l.take (k + 1), okS six s = true) := HB2.out rfl
        clear HB1 HB2
        go_wp2_with fail
        go_roundw
        case rel => exact ⟨k + 1, by omega, by go_num, hBX, HS⟩
        case measure => simp [intOf]; omega
    · have hall : ∀ s ∈ l, okS six s = true := fun s hs => HG.out s (by rw [show k = l.length by have := HN.out; omega, List.take_length]; exact hs)
      have HV : Hid (ok = true) := HO1.out hall
      have cr := HROW.out hall wr hB
      have hkf : decide ((k : Int) < (n : Int)) = false := decide_eq_false (by omega)
      clear HG HROW hall HO1 HO2 hh
      go_wp2_with fail
      go_at_call 40; refine cr.mono ?_; rintro e w4 ⟨u, R, rfl, hO, h1, h2⟩
      have HA : Hid (MkIs six w ok m (.returned (.tuple #[u, .int .i64 0])) w4) := ⟨u, R, 0, rfl, hO.to hB, fun h => absurd (h.symm.trans HV.out) (by decide), fun _ => ⟨rfl, h1, h2⟩⟩
      clear cr hO h1 h2
      go_wp2_with fail
      go_ret2
      exact HA.out
end Go.Proofs.Ytiemlaehhmlhmaa.Sp
namespace Go.Proofs.Ytiemlaehhmlhmaa.Sp
open Go.RowKit Go.Shelf
open Go.Proofs.Ytiemlaehhmlhmaa.Lk (HasRow hasRow_own addr_add)
open Go.Proofs.Ytiemlaehhmlhmaa.Ct (HasAds adCs one_ads adCs_app info_ad sortN up_sortN mem_sortN sortN_snoc sortN_len insN insN_at insN_in Up NilIf put_ads lit_one HasAds.cell)
open Go.Proofs.Ytiemlaehhmlhmaa.Addr (nextE rnext_any rcmp_any wideN rightB hiN loN adV cmpN ad_eql ad_guard RowAt below2 below_drew below_new bset RowAt.lt RowAt.cell RowAt.frozen RowAt.below RowAt.drew RowAt.new RowAt.alloc RowAt.gkeep cells2 cells4 Bl bl_ne wp_region_bl bl_call)
attribute [-go_sem] Builtin.append_
/-- a row of addresses that the call made -/
structure OwnA (w W : World) (v : Value) (m : List Nat) : Prop where
  own : W.ownsRow w.heap.size 25 2 v m.length (adCs m)
  bl : Below w.heap.size w W
theorem OwnA.below {w W W' : World} {v : Value} {m : List Nat} (h : OwnA w W v m) (hb : Below W.heap.size W W') : OwnA w W' v m := ⟨own_below h.own hb, below2 h.bl hb⟩
theorem OwnA.has {w W : World} {v : Value} {m : List Nat} (h : OwnA w W v m) : HasAds W v m := hasRow_own h.own
theorem OwnA.app {w W : World} {v u : Value} {m news : List Nat} (h : OwnA w W v m) (hu : HasAds W u news) (hl : m.length + news.length ≤ 1000000) :
    ∃ v' w3, (∀ ty, (Builtin.append_ #[97, 97] ty #[v, u]).run Try.prog W = .ok v' w3) ∧ OwnA w w3 v' (m ++ news) ∧ (∀ t cs e, RowAt W t cs e → e ≠ 25 → RowAt w3 t cs e) := by
  obtain ⟨v', w3, hrun, ho, hg⟩ := Lk.append_row info_ad Try.underlying97 rfl (by decide) h.own hu (one_ads news) (by omega) (by omega) h.bl.size
  rw [← adCs_app, ← List.length_append] at ho
  refine ⟨v', w3, hrun, ⟨ho, h.bl.grown hg h.bl.size (fun k e => (h.own.lt k e).1)⟩, fun t cs e hr he => RowAt.gkeep hr hg (fun hb => he ?_)⟩
  rcases h.own.2 with ⟨e0, _⟩ | ⟨g, cap, cur, e1, hgb, hgc, _⟩
  · rw [e0] at hb; cases hb
  · rw [e1] at hb
    injection hb with hb
    subst hb
    have h3 : W.heap[t]? = some (.cells cs.toArray e (0, 0)) := hr
    rw [hgc] at h3
    injection h3 with h3
    injection h3 with h4 h5
    exact h5.symm
/-- the places that the first lists give -/
def plcK (six : Bool) (a b : List Sp) (k : Nat) : List Nat := if k = 0 then [] else if k = 1 then plc six a else plc six a ++ plc six b
theorem plc_snoc (six : Bool) (l : List Sp) (k : Nat) (h : k < l.length) : plc six (l.take (k + 1)) = plc six (l.take k) ++ plc1 six l[k] := by
  unfold plc
  rw [List.take_succ_eq_append_getElem h, List.flatMap_append]
  simp
theorem plc1_len (six : Bool) (s : Sp) : (plc1 six s).length ≤ 2 := by unfold plc1; split <;> simp
theorem plc_len (six : Bool) (l : List Sp) : (plc six l).length ≤ 2 * l.length := by
  induction l with
  | nil => exact Nat.zero_le _
  | cons x l ih =>
    show (plc1 six x ++ plc six l).length ≤ _
    have := plc1_len six x
    rw [List.length_append, List.length_cons]
    omega
theorem plc1_next {six : Bool} {s : Sp} (h : okS six s = true) : plc1 six s = [s.1] ++ (if (nextE six s.2).2 = 0 then [(nextE six s.2).1] else []) := by
  have h0 := okS_iff.1 h
  have hr : rightB six s.2 = true := (top_lt six s.2).2 h0.2
  unfold plc1 nextE
  rw [if_pos hr]
  have ht : topN six = 2 ^ wideN six - 1 := rfl
  by_cases e : s.2 = 2 ^ wideN six - 1
  · rw [if_pos e, if_neg (by omega), if_neg (by decide)]; rfl
  · rw [if_neg e, if_pos (by omega), if_pos rfl]; rfl
theorem plc_sorted {six : Bool} {a b : List Sp} : Plcs six a b (sortN (0 :: (plc six a ++ plc six b))) := by
  refine ⟨up_sortN _, fun x => ?_⟩
  rw [mem_sortN, List.mem_cons, List.mem_append]
set_option maxHeartbeats 16000000 in
set_option maxRecDepth 20000 in
theorem places_walk (six : Bool) (a b : List Sp) (va vb : Value) (g0 : Nat) (w : World) (rg : RowAt w g0 [va, vb] 22) (ha : HasSps w va a) (hb : HasSps w vb b) (hoa : ∀ s ∈ a, okS six s = true) (hob : ∀ s ∈ b, okS six s = true) (hla : a.length ≤ 1024) (hlb : b.length ≤ 1024) :
    Calls Try.prog 72 #[.bool six, .slice (some ⟨g0, 0, none⟩) 2 2] w fun e w' => ∃ u, e = .returned u ∧ HasAds w' u (sortN (0 :: (plc six a ++ plc six b))) ∧ Below w.heap.size w w' := by
  obtain ⟨oa, ca, rfl, hca, hca2⟩ := HasRow.slice ha
  obtain ⟨ob, cb, rfl, hcb, hcb2⟩ := HasRow.slice hb
  have HLS : Hid (∀ k : Nat, k < 2 → ∃ (L : List Sp) (oL : Option Addr) (cL : Nat), (∀ W, Below w.heap.size w W → W.cell? ⟨g0, k, none⟩ = some (.slice oL L.length cL) ∧ HasSps W (.slice oL L.length cL) L) ∧ (∀ s ∈ L, okS six s = true) ∧ L.length ≤ 1024 ∧ plcK six a b (k + 1) = plcK six a b k ++ plc six L) := fun k hk => by
    rcases (by omega : k = 0 ∨ k = 1) with rfl | rfl
    · exact ⟨a, oa, ca, fun W hq => ⟨(rg.below hq).cell 0, ha.keep hq⟩, hoa, hla, rfl⟩
    · exact ⟨b, ob, cb, fun W hq => ⟨(rg.below hq).cell 1, hb.keep hq⟩, hob, hlb, rfl⟩
  have HKL : Hid (∀ k : Nat, k ≤ 2 → (plcK six a b k).length ≤ 2048 * k) := fun k hk => by
    have p1 := plc_len six a
    have p2 := plc_len six b
    rcases (by omega : k = 0 ∨ k = 1 ∨ k = 2) with rfl | rfl | rfl
    · exact Nat.zero_le _
    · show (plc six a).length ≤ _; omega
    · show (plc six a ++ plc six b).length ≤ _; rw [List.length_append]; omega
  have HTOP : Hid (∀ x ∈ (0 :: (plc six a ++ plc six b)), x < 2 ^ 128) := fun x hx => by
    have ht := top_big six
    rcases List.mem_cons.1 hx with rfl | hx
    · omega
    · rcases List.mem_append.1 hx with hx | hx
      · have := plc_top hoa hx; omega
      · have := plc_top hob hx; omega
  have HEND : Hid (plcK six a b 2 = plc six a ++ plc six b) := rfl
  have HS0 : Hid (plcK six a b 0 = []) := rfl
  generalize (plc six a ++ plc six b) = PP at HTOP HEND ⊢
  generalize plcK six a b = PK at HLS HKL HEND HS0
  have cx : Hid (∀ (n : Nat) (W : World), n < 2 ^ 128 → Calls Try.prog 43 #[.bool six, adV n] W fun e w' => e = .returned (.tuple #[adV (nextE six n).1, .int .i64 (nextE six n).2]) ∧ Below W.heap.size W w') := fun n W h => rnext_any six n W h
  clear ha hb hoa hob hla hlb hca hcb hca2 hcb2 rg
  clear a b oa ca ob cb
  go_enter Try.func72, Try.ntmps72
  obtain ⟨Y, hY⟩ : ∃ Y, Y = w.alloc (.cells #[.int .u64 0, .int .u64 0] 25) := ⟨_, rfl⟩
  have H0 : Hid (OwnA w Y (.slice (some ⟨w.heap.size, 0, none⟩) 1 1) (0 :: PK 0)) := by
    rw [hY, HS0.out]
    exact ⟨World.ownsRow_lit (base := w.heap.size) w #[.int .u64 0, .int .u64 0] 1 (Nat.le_refl _) (by decide) rfl, below_new (Below.refl _ _) _⟩
  go_upto_region 2 with fail
  rw [← hY]
  clear hY HS0
  go_wp2_with fail
  go_loopw [5, 20] (fun v q wr => ∃ k : Nat, k ≤ 2 ∧ q = .int .i64 (k : Int) ∧ Hid (OwnA w wr v (0 :: PK k))) (fun _ q _ => 2 - (Go.RowKit.intOf q).toNat)
  case atStart => exact ⟨0, by omega, rfl, H0⟩
  case round =>
    obtain ⟨k, hk, rfl, HI⟩ := hrel
    clear H0
    by_cases hlt : k < 2
    · obtain ⟨L, oL, cL, hL1, hL2, hL3, hL4⟩ := HLS.out k hlt
      have hcell := (hL1 _ HI.out.bl).1
      have HLW : Hid (∀ W, Below w.heap.size w W → HasSps W (.slice oL L.length cL) L) := fun W hq => (hL1 W hq).2
      have HLO : Hid (∀ s ∈ L, okS six s = true) := hL2
      have HLK : Hid (PK (k + 1) = PK k ++ plc six L) := hL4
      have HPK : Hid ((PK k).length ≤ 2048) := by have := HKL.out k hk; show _ ≤ _; omega
      have hki : (k : Int) < 2 := by omega
      obtain ⟨n, hn⟩ : ∃ n, n = L.length := ⟨_, rfl⟩
      have HN : Hid (n = L.length) := hn
      rw [← hn] at HLW hcell hL3
      have hni : (n : Int) ≤ 1024 := by omega
      clear hL1 hL2 hL4 hn
      have HJ0 : Hid (OwnA w wr u5 (0 :: (PK k ++ plc six (L.take 0)))) := by
        have h0 := HI.out
        rw [List.take_zero, show plc six [] = [] from rfl, List.append_nil]; exact h0
      clear HI
      go_wp2_with fail
      go_loopw [5, 26] (fun v q wr2 => ∃ j : Nat, j ≤ n ∧ q = .int .i64 (j : Int) ∧ Hid (OwnA w wr2 v (0 :: (PK k ++ plc six (L.take j))))) (fun _ q _ => n - (Go.RowKit.intOf q).toNat)
      case atStart => exact ⟨0, by omega, rfl, HJ0⟩
      case round =>
        obtain ⟨j, hj, rfl, HJ⟩ := hrel
        clear HJ0
        by_cases hlt2 : j < n
        · have hjz : j < L.length := by rw [← HN.out]; exact hlt2
          have hh := HLW.out _ HJ.out.bl
          rw [HN.out] at hh
          obtain ⟨g1, i1, rfl, hg1, a0, a1, a2, a3⟩ := HasSps.cell hh j hjz
          have HS : Hid (plc six (L.take (j + 1)) = plc six (L.take j) ++ plc1 six L[j]) := plc_snoc six L j hjz
          have hok := HLO.out L[j] (List.getElem_mem hjz)
          have hfk := ok_fit hok
          have hpl := plc_len six (L.take j)
          rw [List.length_take] at hpl
          have c2 : ∀ W : World, Calls Try.prog 43 #[.bool six, .agg #[.int .u64 (hiN L[j].2 : Int), .int .u64 (loN L[j].2 : Int)]] W fun e w' => e = .returned (.tuple #[.agg #[.int .u64 (hiN (nextE six L[j].2).1 : Int), .int .u64 (loN (nextE six L[j].2).1 : Int)], .int .i64 (nextE six L[j].2).2]) ∧ Below W.heap.size W w' := fun W => cx.out L[j].2 W hfk.2
          have HP : Hid (plc1 six L[j] = [L[j].1] ++ (if (nextE six L[j].2).2 = 0 then [(nextE six L[j].2).1] else [])) := plc1_next hok
          have hpl2 : (plc six (L.take j)).length ≤ 2048 := by omega
          have hpk := HPK.out
          generalize plc1 six L[j] = PC at HS HP
          obtain ⟨x, hx⟩ : ∃ x : Sp, x = L[j] := ⟨_, rfl⟩
          rw [← hx] at a0 a1 a2 a3 c2 HP
          clear hx hfk hpl hok hh
          obtain ⟨s1, s2⟩ := x
          simp only at a0 a1 a2 a3 c2 HP
          generalize (nextE six s2).1 = na at *
          generalize (nextE six s2).2 = nz at *
          have hji : (j : Int) < (n : Int) := by omega
          obtain ⟨X, hX⟩ : ∃ X, X = wr.alloc (.cells #[.int .u64 (hiN s1 : Int), .int .u64 (loN s1 : Int), .int .u64 (hiN s2 : Int), .int .u64 (loN s2 : Int)] 34) := ⟨_, rfl⟩
          have hbX : Below wr.heap.size wr X := by rw [hX]; exact below_new (Below.refl _ _) _
          have r0 : RowAt X wr.heap.size [.int .u64 (hiN s1 : Int), .int .u64 (loN s1 : Int), .int .u64 (hiN s2 : Int), .int .u64 (loN s2 : Int)] 34 := by rw [hX]; exact RowAt.new _ _ _
          go_upto_region 8 with fail
          rw [← hX]
          replace HJ : Hid (OwnA w X u5 (0 :: (PK k ++ plc six (L.take j)))) := HJ.out.below hbX
          clear hX hbX a0 a1 a2 a3 hg1 hcell
          generalize wr.heap.size = gs at r0 ⊢
          obtain ⟨v', w4, hrun, hO, hkp⟩ := (HJ.out.below (below_new (Below.refl _ X) (.cells #[.int .u64 (hiN s1 : Int), .int .u64 (loN s1 : Int)] 25))).app (lit_one X s1) (by simp only [List.length_cons, List.length_nil, List.length_append]; omega)
          have r4 := hkp gs _ _ (r0.below (below_new (Below.refl _ X) _)) (by decide)
          obtain ⟨y0, y1, y2, y3, yf⟩ := cells4 r0
          clear HJ hkp
          go_upto_region 9 with fail
          clear y0 y1 y2 y3 yf r0
          obtain ⟨y0, y1, y2, y3, yf⟩ := cells4 r4
          have HO : Hid (OwnA w w4 v' (0 :: (PK k ++ plc six (L.take j)) ++ [s1])) := hO
          clear hO hrun
          go_wp2_with fail
          go_at_call 43; refine (c2 _).mono ?_; rintro e w3 ⟨rfl, hb2⟩
          replace HO : Hid (OwnA w w3 v' (0 :: (PK k ++ plc six (L.take j)) ++ [s1])) := HO.out.below hb2
          clear y0 y1 y2 y3 yf hb2 c2 r4
          obtain ⟨X3, hX⟩ : ∃ X3, X3 = w3.alloc (.cells #[.int .u64 (hiN na : Int), .int .u64 (loN na : Int)] 25) := ⟨_, rfl⟩
          have hbX : Below w3.heap.size w3 X3 := by rw [hX]; exact below_new (Below.refl _ _) _
          have r1 : RowAt X3 w3.heap.size [.int .u64 (hiN na : Int), .int .u64 (loN na : Int)] 25 := by rw [hX]; exact RowAt.new _ _ _
          replace HO : Hid (OwnA w X3 v' (0 :: (PK k ++ plc six (L.take j)) ++ [s1])) := HO.out.below hbX
          go_upto_region 10 with fail
          rw [← hX]
          clear hX hbX
          generalize w3.heap.size = gn at r1 ⊢
          by_cases hnz : nz = 0
          · subst hnz
            obtain ⟨z0, z1, zf⟩ := cells2 r1
            obtain ⟨v2, w5, hrun, hO2, _⟩ := (HO.out.below (below_new (Below.refl _ X3) (.cells #[.int .u64 (hiN na : Int), .int .u64 (loN na : Int)] 25))).app (lit_one X3 na) (by simp only [List.length_append, List.length_cons, List.length_nil]; omega)
            have HO2 : Hid (OwnA w w5 v2 (0 :: (PK k ++ plc six (L.take (j + 1))))) := by
              show OwnA _ _ _ _
              rw [HS.out, HP.out, if_pos rfl]
              have e9 : 0 :: (PK k ++ (plc six (L.take j) ++ ([s1] ++ [na]))) = (0 :: (PK k ++ plc six (L.take j)) ++ [s1]) ++ [na] := by simp
              rw [e9]
              exact hO2
            clear hO2 HO HS HP
            go_wp2_with fail
            go_roundw
            case rel => exact ⟨j + 1, by omega, by go_num, HO2⟩
            case measure => simp [Go.RowKit.intOf]; omega
          · have HO2 : Hid (OwnA w X3 v' (0 :: (PK k ++ plc six (L.take (j + 1))))) := by
              show OwnA _ _ _ _
              rw [HS.out, HP.out, if_neg hnz, List.append_nil]
              have e9 : 0 :: (PK k ++ (plc six (L.take j) ++ [s1])) = 0 :: (PK k ++ plc six (L.take j)) ++ [s1] := by simp
              rw [e9]
              exact HO.out
            have hnz2 : (nz == 0) = false := beq_eq_false_iff_ne.2 hnz
            clear HO HS HP
            go_wp2_with fail
            go_roundw
            case rel => exact ⟨j + 1, by omega, by go_num, HO2⟩
            case measure => simp [Go.RowKit.intOf]; omega
        · have hjn : decide ((j : Int) < (n : Int)) = false := decide_eq_false (by omega)
          have hje : j = n := by omega
          have HO2 : Hid (OwnA w wr u5 (0 :: PK (k + 1))) := by
            show OwnA _ _ _ _
            have h0 := HJ.out
            rw [hje, HN.out, List.take_length] at h0
            rw [HLK.out]
            exact h0
          clear hje HJ HLW HLO HLK HPK HN hcell
          go_wp2_with fail
          go_roundw
          case rel => exact ⟨k + 1, by omega, by go_num, HO2⟩
          case measure => simp [Go.RowKit.intOf]; omega
    · have hkn : decide ((k : Int) < 2) = false := decide_eq_false (by omega)
      have hke : k = 2 := by omega
      have hI := HI.out
      have hpk2 := HKL.out 2 (by omega)
      rw [hke, HEND.out] at hI
      rw [HEND.out] at hpk2
      subst hke
      obtain ⟨wz, hwz⟩ : ∃ q, q = wr := ⟨_, rfl⟩
      subst hwz
      have HBZ : Hid (Below w.heap.size w wz) := hI.bl
      have hl := hI.has
      obtain ⟨l, hll⟩ : ∃ l, l = 0 :: PP := ⟨_, rfl⟩
      have HF : Hid (∀ x ∈ l, x < 2 ^ 128) := by rw [hll]; exact HTOP.out
      have hlen : l.length ≤ 1000000 := by rw [hll, List.length_cons]; omega
      rw [← hll] at hl
      have HLL : Hid (l = 0 :: PP) := hll
      clear HI hI hll HLS HKL HEND HTOP cx hpk2 hkn

      obtain ⟨o, c, rfl, hc1, hc2⟩ := HasRow.slice hl
      have HR : Hid (∀ wr : World, Below wz.heap.size wz wr → HasAds wr (.slice o l.length c) l) := fun wr hb => hl.keep hb
      clear hl
      obtain ⟨n, hn⟩ : ∃ n, n = l.length := ⟨_, rfl⟩
      have HN : Hid (n = l.length) := hn
      rw [← hn] at HR hc1 hlen ⊢
      have hni : (n : Int) ≤ 1000000 := by omega
      clear hn
      have Hcm : Hid (∀ (x y : Nat) (W : World), x < 2 ^ 128 → y < 2 ^ 128 → Calls Try.prog 44 #[.agg #[.int .u64 (hiN x : Int), .int .u64 (loN x : Int)], .agg #[.int .u64 (hiN y : Int), .int .u64 (loN y : Int)]] W fun e wz' => e = .returned (.int .i64 (cmpN x y)) ∧ Below W.heap.size W wz') := fun x y W hx hy => Go.Proofs.Ytiemlaehhmlhmaa.Addr.rcmp_any x y W hx hy
      have Hq : Hid (∀ (x y : Nat) (W : World), (binOp .eql 25 (.agg #[.int .u64 (hiN x : Int), .int .u64 (loN x : Int)]) (.agg #[.int .u64 (hiN y : Int), .int .u64 (loN y : Int)])).run Try.prog W = .ok (.bool (decide (x = y))) W) := fun x y W => ad_eql x y W
      have H0 : Hid (wz.ownsRow wz.heap.size 25 2 (.slice none 0 0) (sortN (l.take 0)).length (adCs (sortN (l.take 0))) ∧ Below wz.heap.size wz wz ∧ NilIf (sortN (l.take 0)).length (.slice none 0 0)) := ⟨by have h0 := World.ownsRow_nil wz wz.heap.size 25 2; rw [List.take_zero]; exact h0, Below.refl _ _, fun _ => rfl⟩
      go_wp2_with fail
      go_loopw [12, 52] (fun u q wr => ∃ k : Nat, k ≤ n ∧ q = .int .i64 k ∧ Hid (wr.ownsRow wz.heap.size 25 2 u (sortN (l.take k)).length (adCs (sortN (l.take k))) ∧ Below wz.heap.size wz wr ∧ NilIf (sortN (l.take k)).length u)) (fun _ q _ => n - (Go.RowKit.intOf q).toNat)
      case atStart => exact ⟨0, by omega, rfl, H0⟩
      case round =>
        obtain ⟨k, hk, rfl, HI⟩ := hrel
        clear H0
        by_cases hlt : k < n
        · have hkz : k < l.length := by rw [← HN.out]; exact hlt
          obtain ⟨g1, i1, rfl, hg1, a0, a1⟩ := HasAds.cell (HR.out _ HI.out.2.1) k hkz
          have HS : Hid (sortN (l.take (k + 1)) = insN (sortN (l.take k)) l[k]) := sortN_snoc l k hkz
          have HU : Hid (Up (sortN (l.take k))) := up_sortN _
          have HFO : Hid (∀ x ∈ sortN (l.take k), x < 2 ^ 128) := fun x hx => HF.out x (List.mem_of_mem_take ((mem_sortN _ _).1 hx))
          have HP : Hid (l[k] < 2 ^ 128) := HF.out _ (List.getElem_mem hkz)
          have HL : Hid ((sortN (l.take k)).length ≤ 999999) := by
            have := sortN_len (l.take k)
            rw [List.length_take] at this
            show _ ≤ _
            omega
          have hki : (k : Int) < (n : Int) := by omega
          generalize l[k] = p at a0 a1 HS HP
          generalize sortN (l.take k) = O at HI HS HU HL HFO
          obtain ⟨hO, hbr, hnil⟩ := HI.out
          clear HI hg1
          obtain ⟨o1, c1, rfl, hq1, hq2⟩ := Lk.HasRow.slice (hasRow_own hO)
          have HNIL : Hid (NilIf O.length (.slice o1 O.length c1)) := hnil
          clear hnil
          go_upto_region 18 with fail
          obtain ⟨X, hX⟩ : ∃ X, X = wr.alloc (.cells #[.int .u64 (hiN p : Int), .int .u64 (loN p : Int)] 25) := ⟨_, rfl⟩
          have hbX : Below wr.heap.size wr X := by rw [hX]; exact below_new (Below.refl _ _) _
          have r0 : RowAt X wr.heap.size [.int .u64 (hiN p : Int), .int .u64 (loN p : Int)] 25 := by rw [hX]; exact RowAt.new _ _ _
          rw [← hX]
          have hgo : (Value.slice o1 O.length c1).ownBlock ≠ some wr.heap.size := fun e => by have := (hO.lt _ e).2; omega
          replace hO := own_below hO hbX
          have hbw : Below wz.heap.size wz X := below2 hbr hbX
          clear hX hbX a0 a1 hbr
          generalize wr.heap.size = gs at r0 hgo ⊢
          have HO : Hid (X.ownsRow wz.heap.size 25 2 (.slice o1 O.length c1) O.length (adCs O)) := hO
          have hm := HL.out
          obtain ⟨m, hmd⟩ : ∃ m, m = O.length := ⟨_, rfl⟩
          have HM : Hid (m = O.length) := hmd
          have H1 : Hid (∀ j (h : j < O.length), m ≤ j → p < O[j]) := fun j h hj => by omega
          have hwB : wz.heap.size ≤ X.heap.size := hbw.size
          rw [← hmd] at hm hq1 ⊢
          have hmi : (m : Int) ≤ 999999 := by omega
          clear hO hmd
          go_wp2_with fail
          go_loopw [15] (fun q wr2 => ∃ i : Nat, i ≤ m ∧ q = .int .i64 i ∧ Hid (∀ j (h : j < O.length), i ≤ j → p < O[j]) ∧ Below X.heap.size X wr2) (fun q _ => (Go.RowKit.intOf q).toNat)
          case atStart => exact ⟨m, Nat.le_refl _, rfl, H1, Below.refl _ _⟩
          case round =>
            obtain ⟨i, hi, rfl, HJ, hbJ⟩ := hrel
            clear H1
            have r2 := RowAt.below r0 hbJ
            have hli : (i : Int) ≤ 999999 := by omega
            have v0 : ∀ q : Bl wr, q.W.cell? ⟨gs, 0, none⟩ = some (.int .u64 (hiN p : Int)) := fun q => (r2.below q.h).cell 0
            have v1 : ∀ q : Bl wr, q.W.cell? ⟨gs, 1, none⟩ = some (.int .u64 (loN p : Int)) := fun q => (r2.below q.h).cell 1
            haveI := bl_ne wr
            by_cases hi0 : 0 < i
            · obtain ⟨b2, i2, rfl, _, b0, b1⟩ := HasAds.cell (l := O) (show HasAds wr (.slice o1 O.length c1) O from hasRow_own (own_below HO.out hbJ)) (i - 1) (by have := HM.out; omega)
              clear b0 b1
              have hip : (0 : Int) < (i : Int) := by omega
              have hip1 : decide ((0 : Int) < (i : Int)) = true := decide_eq_true hip
              have hip2 : decide (0 < i) = true := decide_eq_true hi0
              obtain ⟨j, hj⟩ : ∃ j, i = j + 1 := ⟨i - 1, by omega⟩
              have hjO : j < O.length := by have := HM.out; omega
              have hsub : (i : Int) - 1 = (j : Int) := by omega
              have hwj : IntKind.i64.wrap (j : Int) = (j : Int) := by rw [IntKind.wrap_i64]; omega
              have hlt1 : (j : Int) < (m : Int) := by omega
              have HQL : Hid (O[j] < 2 ^ 128) := HFO.out _ (List.getElem_mem hjO)
              generalize hq : O[j] = q at HQL
              have HQ2 : Hid (∀ h : j < O.length, O[j] = q) := fun _ => hq
              clear hq
              have HBQ : Hid (∀ W : World, Below X.heap.size X W → W.cell? ⟨b2, i2 + j * 2, none⟩ = some (.int .u64 (hiN q : Int)) ∧ W.cell? ⟨b2, i2 + j * 2 + 1, none⟩ = some (.int .u64 (loN q : Int))) := fun W hb => by
                obtain ⟨b3, i3, e3, _, c3, c4⟩ := HasAds.cell (l := O) (show HasAds W (.slice (some ⟨b2, i2, none⟩) O.length c1) O from hasRow_own (own_below HO.out hb)) j hjO
                injection e3 with e3
                injection e3 with e31 e32
                subst e31 e32
                rw [HQ2.out] at c3 c4
                exact ⟨c3, c4⟩
              have u0 : ∀ x : Bl wr, x.W.cell? ⟨b2, i2 + j * 2, none⟩ = some (.int .u64 (hiN q : Int)) := fun x => (HBQ.out x.W (hbJ.trans (x.h.mono hbJ.size))).1
              have u1 : ∀ x : Bl wr, x.W.cell? ⟨b2, i2 + j * 2 + 1, none⟩ = some (.int .u64 (loN q : Int)) := fun x => (HBQ.out x.W (hbJ.trans (x.h.mono hbJ.size))).2
              have cm := fun W => Hcm.out q p W HQL.out HP.out
              have HCZ : Hid ((0 : Int) < cmpN q p ↔ p < q) := by
                show _ ↔ _
                unfold cmpN
                split
                · exact ⟨fun h => by omega, fun h => by omega⟩
                · split
                  · exact ⟨fun h => by omega, fun h => by omega⟩
                  · exact ⟨fun h => by omega, fun h => by omega⟩
              generalize cmpN q p = cz at cm HCZ
              have HIJ : Hid (i = j + 1) := hj
              clear hj hjO
              by_cases hpq : p < q
              · have hd0 : (0 : Int) < cz := HCZ.out.2 hpq
                have hd : decide ((0 : Int) < cz) = true := decide_eq_true hd0
                have HJ2 : Hid (∀ y (h : y < O.length), j ≤ y → p < O[y]) := fun y h hy => by
                  by_cases e : y = j
                  · subst e; rw [HQ2.out]; exact hpq
                  · exact HJ.out y h (by have := HIJ.out; omega)
                clear HCZ
                go_wp2_with fail
                refine wp_region_bl (by kernel_rfl) (by kernel_rfl) ?_
                repeat (go_big_quiet_step (first | (go_at_call 44; with_reducible exact bl_call (cm _))))
                refine wpQuiet_nil ?_
                intro Y hw'
                obtain ⟨⟨wy, hqq⟩, hw2⟩ := hw'
                subst hw2
                have hbY : Below X.heap.size X Y := hbJ.trans (hqq.mono hbJ.size)
                clear u0 u1 v0 v1 r2 cm
                go_wp2_with fail
                go_roundw
                case rel => exact ⟨j, by have := HIJ.out; omega, by first | rfl | (rw [← hsub]) | go_num, HJ2, hbY⟩
                case measure => have := HIJ.out; simp [Go.RowKit.intOf]; omega
              · have hd0 : ¬ ((0 : Int) < cz) := fun h => hpq (HCZ.out.1 h)
                have hd : decide ((0 : Int) < cz) = false := decide_eq_false hd0
                clear HCZ
                go_wp2_with fail
                refine wp_region_bl (by kernel_rfl) (by kernel_rfl) ?_
                repeat (go_big_quiet_step (first | (go_at_call 44; with_reducible exact bl_call (cm _))))
                refine wpQuiet_nil ?_
                intro Y hw'
                obtain ⟨⟨wy, hqq⟩, hw2⟩ := hw'
                subst hw2
                have hbY : Below X.heap.size X Y := hbJ.trans (hqq.mono hbJ.size)
                clear u0 u1 v0 v1 r2 cm hqq
                go_wp2_with fail
                have r2 := RowAt.below r0 hbY
                have v0 : ∀ x : Bl Y, x.W.cell? ⟨gs, 0, none⟩ = some (.int .u64 (hiN p : Int)) := fun x => (r2.below x.h).cell 0
                have v1 : ∀ x : Bl Y, x.W.cell? ⟨gs, 1, none⟩ = some (.int .u64 (loN p : Int)) := fun x => (r2.below x.h).cell 1
                have u0 : ∀ x : Bl Y, x.W.cell? ⟨b2, i2 + j * 2, none⟩ = some (.int .u64 (hiN q : Int)) := fun x => (HBQ.out x.W (hbY.trans (x.h.mono hbY.size))).1
                have u1 : ∀ x : Bl Y, x.W.cell? ⟨b2, i2 + j * 2 + 1, none⟩ = some (.int .u64 (loN q : Int)) := fun x => (HBQ.out x.W (hbY.trans (x.h.mono hbY.size))).2
                have heq := fun W => Hq.out q p W
                have hgd := ad_guard
                haveI := bl_ne Y
                have HDE : Hid (decide (q = p) = true ↔ q = p) := decide_eq_true_iff
                generalize decide (q = p) = E at heq HDE
                refine wp_region_bl (by kernel_rfl) (by kernel_rfl) ?_
                repeat (go_big_quiet_step (fail))
                refine wpQuiet_nil ?_
                intro Z hw'
                obtain ⟨⟨wy, hqq⟩, hw2⟩ := hw'
                subst hw2
                have hbZ : Below X.heap.size X Z := hbY.trans (hqq.mono hbY.size)
                clear u0 u1 v0 v1 r2 heq hqq hgd HBQ
                have r2 := RowAt.below r0 hbZ
                cases E
                · have hqp : ¬ q = p := fun h => by have := HDE.out.2 h; cases this
                  have HA : Hid (∀ y (h : y < O.length), y < i → O[y] < p) := fun y h hy => by
                    have h0 := HIJ.out
                    have h1 := HQ2.out (by have := HM.out; omega)
                    by_cases e : y = j
                    · subst e; omega
                    · have h2 := List.pairwise_iff_getElem.1 HU.out y j h (by have := HM.out; omega) (by omega)
                      omega
                  clear HDE hqp hpq hsub hwj hlt1
                  have HE : Hid (sortN (l.take (k + 1)) = O.take i ++ p :: O.drop i) := by
                    show _ = _
                    rw [HS.out, insN_at HU.out p i (by have := HM.out; omega) HJ.out HA.out]
                  obtain ⟨g, cap, W2, W3, hrun, hcp1, hcp2, hcp, ⟨z0, z1, hz0, hz1⟩, hfz, hown, hBg, hbW3, hBW3, htt⟩ := put_ads (w0 := wz) (W := Z) (B := wz.heap.size) (O := O) p i (by have := HM.out; omega) (own_below HO.out hbZ) (Nat.le_trans hwB hbZ.size) (hbw.trans (Below.mono hbZ hwB)) (by have := HM.out; omega) HNIL.out
                  rw [← HM.out] at hrun hcp1 hcp
                  obtain ⟨r3, hgg⟩ := htt gs _ _ _ r2 hgo
                  have HF : Hid (((W3.setCell ⟨g, i * 2, none⟩ (.int .u64 (hiN p : Int))).setCell ⟨g, i * 2 + 1, none⟩ (.int .u64 (loN p : Int))).ownsRow wz.heap.size 25 2 (.slice (some ⟨g, 0, none⟩) (m + 1) cap) (sortN (l.take (k + 1))).length (adCs (sortN (l.take (k + 1)))) ∧ Below wz.heap.size wz ((W3.setCell ⟨g, i * 2, none⟩ (.int .u64 (hiN p : Int))).setCell ⟨g, i * 2 + 1, none⟩ (.int .u64 (loN p : Int))) ∧ NilIf (sortN (l.take (k + 1))).length (.slice (some ⟨g, 0, none⟩) (m + 1) cap)) := by
                    have h9 := hown
                    rw [← HM.out] at h9
                    refine ⟨?_, bset (bset hbW3 hBg) hBg, fun h => ?_⟩
                    · rw [HE.out, show (O.take i ++ p :: O.drop i).length = m + 1 by have := HM.out; simp; omega]
                      exact h9
                    · rw [HE.out] at h
                      simp at h
                  obtain ⟨y0, y1, yf⟩ := cells2 r3
                  clear htt r2 r3 hown hbW3 hBW3 HE HO HJ hbZ
                  have mixed : Try.prog.follows Departure.mixedOrders = true := by kernel_rfl
                  have hw1 : IntKind.i64.wrap ((i : Int) + 1) = (i : Int) + 1 := by rw [IntKind.wrap_i64]; omega
                  have hb1 : (0 : Int) ≤ (i : Int) + 1 := by omega
                  have hle1 : (i : Int) + 1 ≤ (m : Int) + 1 := by omega
                  have hle2 : (i : Int) ≤ (m : Int) + 1 := by omega
                  have him : i ≤ m := by omega
                  have htn : ((i : Int) + 1).toNat = i + 1 := by omega
                  have hci : ¬ cap = i := by omega
                  have hlt2 : (i : Int) < (m : Int) + 1 := by omega
                  go_wp2_with fail
                  by_cases hcapi : cap = i + 1
                  · subst hcapi
                    have hm0 : m - i = 0 := by omega
                    have hq := hcp 97 3 0 (by have := HM.out; intro h; omega)
                    go_region_law_o (refine Lk.copy_step rfl _ _ 97 97 rfl (by simp [Act.eval, Act.put, hm0]) (by simp [Act.eval, Act.put]) hq ?_)
                    go_wp2_with fail
                    go_roundw
                    case rel => (repeat apply Exists.intro); refine ⟨?_, rfl⟩; exact ⟨k + 1, by omega, by go_num, by first | exact HF | simpa using HF⟩
                    case measure => simp [Go.RowKit.intOf]; omega
                  · have hq := hcp 97 3 ((i + 1) * 2) (fun _ => rfl)
                    go_region_law_o (refine Lk.copy_step rfl _ _ 97 97 rfl (by simp [Act.eval, Act.put]) (by simp [Act.eval, Act.put]) hq ?_)
                    go_wp2_with fail
                    go_roundw
                    case rel => (repeat apply Exists.intro); refine ⟨?_, rfl⟩; exact ⟨k + 1, by omega, by go_num, by first | exact HF | simpa using HF⟩
                    case measure => simp [Go.RowKit.intOf]; omega
                · have hqp : q = p := HDE.out.1 rfl
                  have HF2 : Hid (Z.ownsRow wz.heap.size 25 2 (.slice (some ⟨b2, i2, none⟩) m c1) (sortN (l.take (k + 1))).length (adCs (sortN (l.take (k + 1)))) ∧ Below wz.heap.size wz Z ∧ NilIf (sortN (l.take (k + 1))).length (.slice (some ⟨b2, i2, none⟩) m c1)) := by
                    have hmem : p ∈ O := by rw [← hqp, ← HQ2.out (by have := HIJ.out; have := HM.out; omega)]; exact List.getElem_mem _
                    rw [HS.out, insN_in HU.out hmem]
                    have h0 := HM.out
                    refine ⟨?_, hbw.trans (Below.mono hbZ hwB), fun h => by rw [h0]; exact HNIL.out h⟩
                    rw [h0]
                    exact own_below HO.out hbZ
                  clear hqp HDE
                  go_wp2_with fail
                  go_roundw
                  case rel => (repeat apply Exists.intro); refine ⟨?_, rfl⟩; exact ⟨k + 1, by omega, by go_num, by first | exact HF2 | simpa using HF2⟩
                  case measure => simp [Go.RowKit.intOf]; omega
            · have hip : ¬ ((0 : Int) < (i : Int)) := by omega
              have hip1 : decide ((0 : Int) < (i : Int)) = false := decide_eq_false hip
              have hip2 : decide (0 < i) = false := decide_eq_false hi0
              have HA : Hid (∀ y (h : y < O.length), y < i → O[y] < p) := fun y h hy => by omega
              go_wp2_with fail
              refine wp_region_bl (by kernel_rfl) (by kernel_rfl) ?_
              repeat (go_big_quiet_step (fail))
              refine wpQuiet_nil ?_
              intro Y hw'
              obtain ⟨⟨wy, hqq⟩, hw2⟩ := hw'
              subst hw2
              have hbY : Below X.heap.size X Y := hbJ.trans (hqq.mono hbJ.size)
              clear v0 v1 r2 hqq
              go_wp2_with fail
              haveI := bl_ne Y
              refine wp_region_bl (by kernel_rfl) (by kernel_rfl) ?_
              repeat (go_big_quiet_step (fail))
              refine wpQuiet_nil ?_
              intro Z hw'
              obtain ⟨⟨wy, hqq⟩, hw2⟩ := hw'
              subst hw2
              have hbZ : Below X.heap.size X Z := hbY.trans (hqq.mono hbY.size)
              clear hqq
              have r2 := RowAt.below r0 hbZ
              have HE : Hid (sortN (l.take (k + 1)) = O.take i ++ p :: O.drop i) := by
                show _ = _
                rw [HS.out, insN_at HU.out p i (by have := HM.out; omega) HJ.out HA.out]
              obtain ⟨g, cap, W2, W3, hrun, hcp1, hcp2, hcp, ⟨z0, z1, hz0, hz1⟩, hfz, hown, hBg, hbW3, hBW3, htt⟩ := put_ads (w0 := wz) (W := Z) (B := wz.heap.size) (O := O) p i (by have := HM.out; omega) (own_below HO.out hbZ) (Nat.le_trans hwB hbZ.size) (hbw.trans (Below.mono hbZ hwB)) (by have := HM.out; omega) HNIL.out
              rw [← HM.out] at hrun hcp1 hcp
              obtain ⟨r3, hgg⟩ := htt gs _ _ _ r2 hgo
              have HF : Hid (((W3.setCell ⟨g, i * 2, none⟩ (.int .u64 (hiN p : Int))).setCell ⟨g, i * 2 + 1, none⟩ (.int .u64 (loN p : Int))).ownsRow wz.heap.size 25 2 (.slice (some ⟨g, 0, none⟩) (m + 1) cap) (sortN (l.take (k + 1))).length (adCs (sortN (l.take (k + 1)))) ∧ Below wz.heap.size wz ((W3.setCell ⟨g, i * 2, none⟩ (.int .u64 (hiN p : Int))).setCell ⟨g, i * 2 + 1, none⟩ (.int .u64 (loN p : Int))) ∧ NilIf (sortN (l.take (k + 1))).length (.slice (some ⟨g, 0, none⟩) (m + 1) cap)) := by
                have h9 := hown
                rw [← HM.out] at h9
                refine ⟨?_, bset (bset hbW3 hBg) hBg, fun h => ?_⟩
                · rw [HE.out, show (O.take i ++ p :: O.drop i).length = m + 1 by have := HM.out; simp; omega]
                  exact h9
                · rw [HE.out] at h
                  simp at h
              obtain ⟨y0, y1, yf⟩ := cells2 r3
              clear htt r2 r3 hown hbW3 hBW3 HE HO HJ hbZ
              have mixed : Try.prog.follows Departure.mixedOrders = true := by kernel_rfl
              have hw1 : IntKind.i64.wrap ((i : Int) + 1) = (i : Int) + 1 := by rw [IntKind.wrap_i64]; omega
              have hb1 : (0 : Int) ≤ (i : Int) + 1 := by omega
              have hle1 : (i : Int) + 1 ≤ (m : Int) + 1 := by omega
              have hle2 : (i : Int) ≤ (m : Int) + 1 := by omega
              have him : i ≤ m := by omega
              have htn : ((i : Int) + 1).toNat = i + 1 := by omega
              have hci : ¬ cap = i := by omega
              have hlt2 : (i : Int) < (m : Int) + 1 := by omega
              go_wp2_with fail
              by_cases hcapi : cap = i + 1
              · subst hcapi
                have hm0 : m - i = 0 := by omega
                have hq := hcp 97 3 0 (by have := HM.out; intro h; omega)
                go_region_law_o (refine Lk.copy_step rfl _ _ 97 97 rfl (by simp [Act.eval, Act.put, hm0]) (by simp [Act.eval, Act.put]) hq ?_)
                go_wp2_with fail
                go_roundw
                case rel => (repeat apply Exists.intro); refine ⟨?_, rfl⟩; exact ⟨k + 1, by omega, by go_num, by first | exact HF | simpa using HF⟩
                case measure => simp [Go.RowKit.intOf]; omega
              · have hq := hcp 97 3 ((i + 1) * 2) (fun _ => rfl)
                go_region_law_o (refine Lk.copy_step rfl _ _ 97 97 rfl (by simp [Act.eval, Act.put]) (by simp [Act.eval, Act.put]) hq ?_)
                go_wp2_with fail
                go_roundw
                case rel => (repeat apply Exists.intro); refine ⟨?_, rfl⟩; exact ⟨k + 1, by omega, by go_num, by first | exact HF | simpa using HF⟩
                case measure => simp [Go.RowKit.intOf]; omega
        · have hkn : decide ((k : Int) < (n : Int)) = false := decide_eq_false (by omega)
          have hte : l.take k = l := by have := HN.out; exact List.take_of_length_le (by omega)
          have HF2 : Hid (HasAds wr u12 (sortN l) ∧ Below wz.heap.size wz wr) := by rw [hte] at HI; exact ⟨hasRow_own HI.out.1, HI.out.2.1⟩
          clear hte HI
          go_wp2_with fail
          go_ret
          exact ⟨_, rfl, by have h0 := HF2.out.1; rw [HLL.out] at h0; exact h0, below2 HBZ.out HF2.out.2⟩
/-- the contract of places, at rows of right spans -/
theorem plcC_any (six : Bool) (a b : List Sp) (va vb : Value) (w : World) (ha : HasSps w va a) (hb : HasSps w vb b) (hoa : ∀ s ∈ a, okS six s = true) (hob : ∀ s ∈ b, okS six s = true) (hla : a.length ≤ 1024) (hlb : b.length ≤ 1024) : PlcC six a b va vb w := by
  intro W hq
  have hB : Below W.heap.size W (W.alloc (.cells #[va, vb] 22)) := below_new (Below.refl _ _) _
  refine (places_walk six a b va vb W.heap.size _ (RowAt.new _ _ _) ((ha.keep hq).keep hB) ((hb.keep hq).keep hB) hoa hob hla hlb).mono ?_
  rintro e w' ⟨u, rfl, h1, h2⟩
  refine ⟨u, _, rfl, h1, below2 hB h2, plc_sorted, ?_⟩
  have h3 := sortN_len (0 :: (plc six a ++ plc six b))
  have h4 := plc_len six a
  have h5 := plc_len six b
  rw [List.length_cons, List.length_append] at h3
  omega
end Go.Proofs.Ytiemlaehhmlhmaa.Sp
namespace Go.Proofs.Ytiemlaehhmlhmaa.Sp
open Go.RowKit Go.Shelf
open Go.Proofs.Ytiemlaehhmlhmaa.Lk (HasRow hasRow_own addr_add)
def fewB (n : Nat) : Bool := !(decide (60 < n) && decide (n ≤ 1024))
theorem few_cases (n : Nat) : (n ≤ 60 ∧ fewB n = true) ∨ (60 < n ∧ n ≤ 1024 ∧ fewB n = false) ∨ (1024 < n ∧ fewB n = true) := by
  unfold fewB
  rcases Nat.lt_or_ge 60 n with h | h
  · rcases Nat.lt_or_ge 1024 n with h2 | h2
    · exact .inr (.inr ⟨h2, by rw [decide_eq_false (by omega : ¬ n ≤ 1024), Bool.and_false]; rfl⟩)
    · exact .inr (.inl ⟨h, h2, by rw [decide_eq_true h, decide_eq_true h2]; rfl⟩)
  · exact .inl ⟨h, by rw [decide_eq_false (by omega : ¬ 60 < n)]; rfl⟩
set_option maxHeartbeats 4000000 in
set_option maxRecDepth 20000 in
theorem few1_any (n b c : Nat) (o : Option Addr) (w : World) (h0 : w.cell? ⟨b, 0, none⟩ = some (.slice o n c)) :
    Calls Try.prog 9 #[.slice (some ⟨b, 0, none⟩) 1 1] w fun e w' => e = .returned (.bool (fewB n)) ∧ Below w.heap.size w w' := by
  rcases few_cases n with ⟨h1, h2⟩ | ⟨h1, h1b, h2⟩ | ⟨h1, h2⟩ <;> rw [h2] <;> clear h2
  · have hq1 : decide ((60 : Int) < (n : Int)) = false := decide_eq_false (by omega)
    have hq2 : decide (60 < n) = false := decide_eq_false (by omega)
    go_enter Try.func9, Try.ntmps9
    go_wp2_with fail
    refine wp_loop_rounds 2 ?_
    rw [rounds_succ]
    go_wp2_with fail
    rw [rounds_succ]
    go_wp2_with fail
    go_ret
    exact ⟨rfl, Below.refl _ _⟩
  · have hq1 : decide ((60 : Int) < (n : Int)) = true := decide_eq_true (by omega)
    have hq2 : decide (60 < n) = true := decide_eq_true (by omega)
    have hq3 : decide ((n : Int) ≤ 1024) = true := decide_eq_true (by omega)
    have hq4 : decide (n ≤ 1024) = true := decide_eq_true (by omega)
    go_enter Try.func9, Try.ntmps9
    go_wp2_with fail
    refine wp_loop_rounds 2 ?_
    rw [rounds_succ]
    go_wp2_with fail
    go_ret
    exact ⟨rfl, Below.refl _ _⟩
  · have hq1 : decide ((60 : Int) < (n : Int)) = true := decide_eq_true (by omega)
    have hq2 : decide (60 < n) = true := decide_eq_true (by omega)
    have hq3 : decide ((n : Int) ≤ 1024) = false := decide_eq_false (by omega)
    have hq4 : decide (n ≤ 1024) = false := decide_eq_false (by omega)
    go_enter Try.func9, Try.ntmps9
    go_wp2_with fail
    refine wp_loop_rounds 2 ?_
    rw [rounds_succ]
    go_wp2_with fail
    rw [rounds_succ]
    go_wp2_with fail
    go_ret
    exact ⟨rfl, Below.refl _ _⟩
end Go.Proofs.Ytiemlaehhmlhmaa.Sp
namespace Go.Proofs.Ytiemlaehhmlhmaa.Sp
open Go.RowKit Go.Shelf
open Go.Proofs.Ytiemlaehhmlhmaa.Lk (HasRow hasRow_own addr_add)
open Go.Proofs.Ytiemlaehhmlhmaa.Addr (below2)
/-- the row and the reason of an answer -/
def SetR (six ok : Bool) (m : Nat → Bool) (R : List Sp) (why : Int) : Prop := (ok = false → why = 2 ∧ R = []) ∧ (ok = true → (why = 0 ∧ Row six R ∧ (∀ x, inB R x = m x) ∧ R.length ≤ 1024) ∨ (why = 11 ∧ R = [] ∧ ∃ L, Row six L ∧ (∀ x, inB L x = m x) ∧ 1024 < L.length))
def PostR (w : World) (P : List Sp → Int → Prop) (e : Ending) (w' : World) : Prop := ∃ u R, ∃ why : Int, e = .returned (.tuple #[u, .int .i64 why]) ∧ HasSps w' u R ∧ Below w.heap.size w w' ∧ P R why
theorem setR_same {six ok : Bool} {m : Nat → Bool} {R S : List Sp} {y z : Int} (h : SetR six ok m R y) (g : SetR six ok m S z) : R = S ∧ y = z := by
  cases ok
  · obtain ⟨a1, a2⟩ := h.1 rfl
    obtain ⟨b1, b2⟩ := g.1 rfl
    subst a1 a2 b1 b2
    exact ⟨rfl, rfl⟩
  · rcases h.2 rfl with ⟨a1, a2, a3, a4⟩ | ⟨a1, a2, L, a3, a4, a5⟩ <;> rcases g.2 rfl with ⟨c1, c2, c3, c4⟩ | ⟨c1, c2, L2, c3, c4, c5⟩
    · have := row_ext a2 c2 (fun x => by rw [a3, c3])
      subst a1 c1 this
      exact ⟨rfl, rfl⟩
    · have := row_ext a2 c3 (fun x => by rw [a3, c4])
      subst this
      omega
    · have := row_ext a3 c2 (fun x => by rw [a4, c3])
      subst this
      omega
    · subst a1 a2 c1 c2
      exact ⟨rfl, rfl⟩
theorem setR_of {six ok : Bool} {w w' : World} {m m2 : Nat → Bool} {b : Nat} {e : Ending} (h : AnsIs six w ok 2 m b e w') (hm : ok = true → ∀ x, m x = m2 x) : PostR w (SetR six ok m2) e w' := by
  obtain ⟨u, R, why, e1, hO, h1, h2⟩ := h
  refine ⟨u, R, why, e1, hO.has, hO.bl, h1, fun hk => ?_⟩
  rcases h2 hk with ⟨a1, a2, a3, a4, _⟩ | ⟨a1, a2, L, a3, a4, a5, _⟩
  · exact .inl ⟨a1, a2, fun x => by rw [a3, hm hk], a4⟩
  · exact .inr ⟨a1, a2, L, a3, fun x => by rw [a4, hm hk], a5⟩
theorem in_top {six : Bool} {l : List Sp} (h : ∀ s ∈ l, okS six s = true) {x : Nat} (hx : inB l x = true) : x ≤ topN six := by
  obtain ⟨s, hs, h1, h2⟩ := inB_iff.1 hx
  have := okS_iff.1 (h s hs)
  omega
section
variable (six : Bool) (a b : List Sp) (va vb : Value) (w : World) (ha : HasSps w va a) (hb : HasSps w vb b) (hfa : ∀ s ∈ a, FitS s) (hfb : ∀ s ∈ b, FitS s)
include ha hb hfa hfb
theorem or_p : Calls Try.prog 18 #[.bool six, va, vb] w (PostR w (SetR six (okB six a && okB six b) (fun x => inB a x || inB b x))) := by
  refine (or_any six a b va vb w ha hb hfa hfb).mono ?_
  intro e w' h
  exact setR_of h (fun _ _ => rfl)
theorem and_p : Calls Try.prog 20 #[.bool six, va, vb] w (PostR w (SetR six (okB six a && okB six b) (fun x => inB a x && inB b x))) := by
  refine (and_any six a b va vb w ha hb hfa hfb).mono ?_
  intro e w' h
  exact setR_of h (fun _ _ => rfl)
omit hfa hfb in
theorem plcC_ok (h1 : okB six a = true) (h2 : okB six b = true) : PlcC six a b va vb w := plcC_any six a b va vb w ha hb (okB_iff.1 h1).2.1 (okB_iff.1 h2).2.1 (okB_iff.1 h1).1 (okB_iff.1 h2).1
theorem ror_p : Calls Try.prog 19 #[.bool six, va, vb] w (PostR w (SetR six (okB six a && okB six b) (fun x => inB a x || inB b x))) := by
  refine (ror10_any six a b va vb w ha hb hfa hfb (plcC_ok six a b va vb w ha hb)).mono ?_
  intro e w' h
  refine setR_of h (fun hk x => ?_)
  have hk := (Bool.and_eq_true _ _).mp hk
  have ta : inB a x = true → x ≤ topN six := in_top (okB_iff.1 hk.1).2.1
  have tb : inB b x = true → x ≤ topN six := in_top (okB_iff.1 hk.2).2.1
  show ((inB a x || inB b x) && decide (x ≤ topN six)) = (inB a x || inB b x)
  cases h1 : inB a x <;> cases h2 : inB b x <;> simp_all
theorem rand_p : Calls Try.prog 21 #[.bool six, va, vb] w (PostR w (SetR six (okB six a && okB six b) (fun x => inB a x && inB b x))) := by
  refine (rand10_any six a b va vb w ha hb hfa hfb (plcC_ok six a b va vb w ha hb)).mono ?_
  intro e w' h
  refine setR_of h (fun hk x => ?_)
  have hk := (Bool.and_eq_true _ _).mp hk
  have ta : inB a x = true → x ≤ topN six := in_top (okB_iff.1 hk.1).2.1
  show ((inB a x && inB b x) && decide (x ≤ topN six)) = (inB a x && inB b x)
  cases h1 : inB a x <;> cases h2 : inB b x <;> simp_all
end
section
variable (six : Bool) (a : List Sp) (va : Value) (w : World) (ha : HasSps w va a) (hfa : ∀ s ∈ a, FitS s)
include ha hfa
theorem not_p : Calls Try.prog 22 #[.bool six, va] w (PostR w (SetR six (okB six a) (fun x => decide (x ≤ topN six) && !inB a x))) := by
  refine (not_any six a va w ha hfa).mono ?_
  intro e w' h
  exact setR_of h (fun _ _ => rfl)
theorem rnot_p : Calls Try.prog 23 #[.bool six, va] w (PostR w (SetR six (okB six a) (fun x => decide (x ≤ topN six) && !inB a x))) := by
  refine (rnot10_any six a va w ha hfa (fun h => plcC_ok six a [] va _ w ha (hasSps_nil w) h (okB_iff.2 ⟨by simp, row_nil six⟩))).mono ?_
  intro e w' h
  rw [show okB six [] = true from okB_iff.2 ⟨by simp, row_nil six⟩, Bool.and_true] at h
  refine setR_of h (fun hk x => ?_)
  show ((!inB a x && !false) && decide (x ≤ topN six)) = (decide (x ≤ topN six) && !inB a x)
  cases inB a x <;> cases decide (x ≤ topN six) <;> rfl
/-- of too many spans there is no row, and of wrong ones -/
def MkR (six : Bool) (l : List Sp) (R : List Sp) (why : Int) : Prop := (1024 < l.length ∧ R = [] ∧ why = 11) ∨ (l.length ≤ 1024 ∧ l.all (okS six) = false ∧ R = [] ∧ why = 2) ∨ (l.length ≤ 1024 ∧ l.all (okS six) = true ∧ why = 0 ∧ Row six R ∧ ∀ x, inB R x = inB l x)
end
theorem mkR_same {six : Bool} {l R S : List Sp} {y z : Int} (h : MkR six l R y) (g : MkR six l S z) : R = S ∧ y = z := by
  rcases h with ⟨a1, a2, a3⟩ | ⟨a1, a2, a3, a4⟩ | ⟨a1, a2, a3, a4, a5⟩ <;> rcases g with ⟨b1, b2, b3⟩ | ⟨b1, b2, b3, b4⟩ | ⟨b1, b2, b3, b4, b5⟩
  · exact ⟨by rw [a2, b2], by rw [a3, b3]⟩
  · omega
  · omega
  · omega
  · exact ⟨by rw [a3, b3], by rw [a4, b4]⟩
  · rw [a2] at b2; cases b2
  · omega
  · rw [a2] at b2; cases b2
  · exact ⟨row_ext a4 b4 (fun x => by rw [a5, b5]), by rw [a3, b3]⟩
section
variable (six : Bool) (l : List Sp) (v : Value) (w : World) (h : HasSps w v l) (hf : ∀ s ∈ l, FitS s)
include h hf
theorem make_p : Calls Try.prog 11 #[.bool six, v] w (PostR w (MkR six l)) := by
  by_cases hl : l.length ≤ 1024
  · refine (make_any six l v w h hf hl).mono ?_
    rintro e w' ⟨u, R, why, e1, hO, h1, h2⟩
    refine ⟨u, R, why, e1, hO.has, hO.bl, ?_⟩
    cases hk : l.all (okS six)
    · obtain ⟨a1, a2⟩ := h1 hk
      exact .inr (.inl ⟨hl, hk, a2, a1⟩)
    · rcases h2 hk with ⟨a1, a2, a3, a4, _⟩ | ⟨a1, a2, L, a3, a4, a5, a6⟩
      · exact .inr (.inr ⟨hl, hk, a1, a2, a3⟩)
      · omega
  · refine (makeL_any six l v w h (by omega)).mono ?_
    rintro e w' ⟨rfl, rfl⟩
    exact ⟨_, [], 11, rfl, hasSps_nil _, Below.refl _ _, .inl ⟨by omega, rfl, rfl⟩⟩
omit hf in
theorem rmake10L_any (hlen : 1024 < l.length) : Calls Try.prog 12 #[.bool six, v] w fun e w' => e = .returned (.tuple #[.slice none 0 0, .int .i64 11]) ∧ w' = w := by
  obtain ⟨o, c, rfl, hc1, hc2⟩ := HasRow.slice h
  have hq1 : decide ((1024 : Int) < (l.length : Int)) = true := decide_eq_true (by omega)
  have hq2 : decide (1024 < l.length) = true := decide_eq_true hlen
  generalize l.length = n at *
  clear h
  go_enter Try.func12, Try.ntmps12
  go_wp2_with fail
  go_ret2
  exact ⟨rfl, rfl⟩
theorem rmake_p : Calls Try.prog 12 #[.bool six, v] w (PostR w (MkR six l)) := by
  by_cases hl : l.length ≤ 1024
  · refine (rmake10_any six l v w h hf hl (fun hok => plcC_any six l [] v _ w h (hasSps_nil w) hok (by simp) hl (by simp))).mono ?_
    rintro e w' ⟨u, R, why, e1, hO, h1, h2⟩
    refine ⟨u, R, why, e1, hO.has, hO.bl, ?_⟩
    cases hk : l.all (okS six)
    · obtain ⟨a1, a2⟩ := h1 hk
      exact .inr (.inl ⟨hl, hk, a2, a1⟩)
    · obtain ⟨a1, a2, a3⟩ := h2 hk
      refine .inr (.inr ⟨hl, hk, a1, a2, fun x => ?_⟩)
      have ta : inB l x = true → x ≤ topN six := in_top (List.all_eq_true.1 hk)
      rw [a3]
      show ((inB l x || false) && decide (x ≤ topN six)) = inB l x
      cases h1 : inB l x <;> simp_all
  · refine (rmake10L_any six l v w h (by omega)).mono ?_
    rintro e w' ⟨rfl, rfl⟩
    exact ⟨_, [], 11, rfl, hasSps_nil _, Below.refl _ _, .inl ⟨by omega, rfl, rfl⟩⟩
end
end Go.Proofs.Ytiemlaehhmlhmaa.Sp
