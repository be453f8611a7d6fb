/- For all routes, a kind and an address: spoorlaw15.TrieAsks returns true, and changes nothing that was there. No condition. -/
import Derived.Test.YtjgieaijdkmadaaTqC
import Derived.Lib.Overlaps
import Derived.Lib.AppendZerosOnto
import Derived.Lib.SlBuf
import Derived.Test.YtjgieaijdkmadaaTqE
import Derived.Test.YtjgieaijdkmadaaTqG
import Derived.BigQuiet
import Derived.Test.YtjgieaijdkmadaaTqD
import Derived.Test.YtjgieaijdkmadaaRows
import Derived.Test.YtjgieaijdkmadaaTqF
import Derived.ProofKit
import Derived.OpenShut
import Derived.ShutString
import Derived.SizedLaws
set_option linter.unusedVariables false
namespace Go.Proofs.Ytjgieaijdkmadaa.Lk
open Go.RowKit
/-- copy, as one step of a region whose order is drawn -/
theorem copy_step {ops : Array Oper} {o : Oper} {a : Act} {w : World} {K : Act → World → Prop} {Q : Exit → Act → World → Prop} {E : Prop} (hg : o.guard = none) (d s : Operand) (t t' : TypeId)
    (ho : o.op = .call { callee := .builtin .copy, args := #[d, s], argTypes := #[t, t'] }) {v u : Value} (hd : a.eval d = v) (hs : a.eval s = u) {v' : Value} {w' : World}
    (hr : (Builtin.copy_ #[t, t'] o.type #[v, u]).run Try.prog w = .ok v' w') (hK : K (a.put o.dst v') w') : if Region.wanted o (yielded ops a.tmps) = true then Oper.wp Try.prog o a w K Q else E := by
  rw [if_pos (by simp [Region.wanted, hg])]
  simp [Oper.wp, execOp, ho, resolve, invoke, builtin, hd, hs, hr, Result.andThen]
  exact hK
/-- a row that is copied into a row that is owned -/
theorem own_copy {e sz : Nat} {dT : TypeId} (hu : Try.prog.underlying dT = some (.slice e)) (hs : (Try.prog.info? e).map (·.size) = some sz) {W : World} {B g n cap : Nat} {xs : List Value} (h : W.ownsRow B e sz (.slice (some ⟨g, 0, none⟩) n cap) n xs)
    (o dLen dCap : Nat) (a : Addr) (sLen sCap k : Nat) (cs : List Value) (hk : Nat.min sLen dLen = k) (hl : cs.length = k * sz) (hok : o * sz + k * sz ≤ n * sz) (hsrc : ∀ j v, cs[j]? = some v → W.cell? (a.add j) = some v) (h1 : ∀ v ∈ cs, v.oneCell' = true) :
    ∃ W', (∀ sT ty, (Builtin.copy_ #[dT, sT] ty #[.slice (some ⟨g, o * sz, none⟩) dLen dCap, .slice (some a) sLen sCap]).run Try.prog W = .ok (goInt k) W') ∧ W'.ownsRow B e sz (.slice (some ⟨g, 0, none⟩) n cap) n (xs.take (o * sz) ++ cs ++ xs.drop (o * sz + k * sz)) ∧ W.grownBy W' (some g) := by
  rcases h.2 with ⟨e0, _⟩ | ⟨g', cap', cur, e1, hg, hgb, hnc, hcm, hcs, htk⟩
  · cases e0
  · injection e1 with e1 _ e3
    injection e1 with e1
    injection e1 with e1
    subst e1 e3
    have hnn : n * sz ≤ cur.size := by rw [hcs]; exact Nat.mul_le_mul_right _ hnc
    have hld := run_loadCells_list (P := Try.prog) W a cs hsrc
    have hst := run_storeCells_at Try.prog g (o * sz) e cs 0 cur W hgb (by omega) h1
    refine ⟨W.setRow g (cur.toList.take (o * sz) ++ cs ++ cur.toList.drop (o * sz + cs.length)).toArray, fun sT ty => ?_, ?_, ?_⟩
    · cases hq : Try.prog.info? e with
      | none => simp [hq] at hs
      | some i =>
        have hi : i.size = sz := by simpa [hq] using hs
        rw [hl] at hld
        simp only [Nat.add_zero] at hst
        simp [Builtin.copy_, run_underlying hu, Builtin.lenOf, Builtin.firstCells, sizeOf, typeInfo, hq, hi, hk, hld, hst]
    · refine ⟨?_, .inr ⟨g, cap, _, rfl, hg, setRow_heap W g cur _ e _ hgb, hnc, hcm, ?_, ?_⟩⟩
      · have := h.1
        simp only [List.length_append, List.length_take, List.length_drop]
        omega
      · simp only [List.size_toArray, List.length_append, List.length_take, List.length_drop, Array.length_toList]
        omega
      · rw [← htk]
        simp only [List.take_append, List.length_append, List.length_take, Array.length_toList, List.take_take, List.drop_take]
        rw [Nat.min_eq_left (show o * sz ≤ cur.size by omega), Nat.min_eq_right (show o * sz ≤ n * sz by omega), Nat.min_eq_left (show o * sz ≤ n * sz by omega), List.take_of_length_le (show cs.length ≤ n * sz - o * sz by omega), hl]
    · exact ⟨rfl, rfl, rfl, by simp [World.setRow], fun k _ hk => by simp only [World.setRow]; rw [Array.getElem?_modify]; split; (rename_i h0; exact absurd (by rw [h0]) hk); rfl⟩
end Go.Proofs.Ytjgieaijdkmadaa.Lk
namespace Go.Proofs.Ytjgieaijdkmadaa.Ct
open Go.RowKit
open Go.Proofs.Ytjgieaijdkmadaa.Addr (hiN loN adV RowAt below2 below_drew below_new bset RowAt.lt RowAt.cell RowAt.frozen RowAt.below RowAt.drew RowAt.new RowAt.alloc cells2 RowAt.gkeep)
open Go.Proofs.Ytjgieaijdkmadaa.Lk (hasRow_own append_row own_copy addr_add)
attribute [-go_sem] Builtin.append_
theorem size_ad : (Try.prog.info? 25).map (·.size) = some 2 := by kernel_rfl
theorem lit_one (W : World) (a : Nat) : HasAds (W.alloc (.cells #[.int .u64 (hiN a : Int), .int .u64 (loN a : Int)] 25)) (.slice (some ⟨W.heap.size, 0, none⟩) 1 1) [a] :=
  hasRow_own (World.ownsRow_lit (base := W.heap.size) W #[.int .u64 (hiN a : Int), .int .u64 (loN a : Int)] 1 (Nat.le_refl _) (by decide) rfl)
theorem insN_at {o : List Nat} (hu : Up o) (p i : Nat) (hi : i ≤ o.length) (h1 : ∀ j (h : j < o.length), i ≤ j → p < o[j]) (h2 : ∀ j (h : j < o.length), j < i → o[j] < p) : insN o p = o.take i ++ p :: o.drop i := by
  have hd : ∀ x ∈ o.drop i, p < x := fun x hx => by
    obtain ⟨j, hj, rfl⟩ := List.getElem_of_mem hx
    rw [List.length_drop] at hj
    rw [List.getElem_drop]
    exact h1 _ (by omega) (by omega)
  have ht : ∀ x ∈ o.take i, x < p := fun x hx => by
    obtain ⟨j, hj, rfl⟩ := List.getElem_of_mem hx
    rw [List.length_take] at hj
    rw [List.getElem_take]
    exact h2 _ (by omega) (by omega)
  refine ext_up _ _ (up_insN hu p) ?_ (fun z => ?_)
  · refine List.pairwise_append.2 ⟨hu.sublist (List.take_sublist _ _), List.pairwise_cons.2 ⟨hd, hu.sublist (List.drop_sublist _ _)⟩, fun a ha b hb => ?_⟩
    rcases List.mem_cons.1 hb with rfl | hb
    · exact ht a ha
    · exact Nat.lt_trans (ht a ha) (hd b hb)
  · rw [mem_insN]
    conv => lhs; rw [show (z ∈ o) = (z ∈ o.take i ++ o.drop i) by rw [List.take_append_drop]]
    simp only [List.mem_append, List.mem_cons]
    constructor
    · rintro (h | h | h)
      · exact .inr (.inl h)
      · exact .inl h
      · exact .inr (.inr h)
    · rintro (h | h | h)
      · exact .inr (.inl h)
      · exact .inl h
      · exact .inr (.inr h)
theorem insN_in {o : List Nat} (hu : Up o) {p : Nat} (h : p ∈ o) : insN o p = o := ext_up _ _ (up_insN hu p) hu (fun z => by
  rw [mem_insN]
  exact ⟨fun hz => by rcases hz with rfl | hz; exact h; exact hz, fun hz => .inr hz⟩)
theorem sortN_snoc (l : List Nat) (k : Nat) (h : k < l.length) : sortN (l.take (k + 1)) = insN (sortN (l.take k)) l[k] := by
  unfold sortN
  rw [List.take_succ_eq_append_getElem h, List.foldl_append]
  rfl
theorem sortN_len (l : List Nat) : (sortN l).length ≤ l.length := by
  have key : ∀ (m l : List Nat), Up m → (∀ x ∈ m, x ∈ l) → m.length ≤ l.length := by
    intro m
    induction m with
    | nil => intro l _ _; exact Nat.zero_le _
    | cons y m ih =>
      intro l hu h
      have hp := List.pairwise_cons.1 hu
      have hy := h y List.mem_cons_self
      have h1 := ih (l.erase y) hp.2 (fun x hx => (List.mem_erase_of_ne (by have := hp.1 x hx; omega)).2 (h x (List.mem_cons_of_mem _ hx)))
      have h2 := List.length_erase_of_mem hy
      have h3 := List.length_pos_of_mem hy
      rw [List.length_cons]
      omega
  exact key _ _ (up_sortN l) (fun x hx => (mem_sortN _ _).1 hx)
/-- what becomes of the row: one more at its end, the rest moved, and the new one put -/
theorem put_ads {w0 W : World} {B : Nat} {u : Value} {O : List Nat} (p : Nat) (i : Nat) (hi : i ≤ O.length) (ho : W.ownsRow B 25 2 u O.length (adCs O)) (hB : B ≤ W.heap.size) (hb0 : Below B w0 W) (hO : O.length ≤ 1000000) (hnil : O.length = 0 → u = .slice none 0 0) :
    ∃ g cap W2 W3, (∀ ty, (Builtin.append_ #[44, 44] ty #[u, .slice (some ⟨W.heap.size, 0, none⟩) 1 1]).run Try.prog (W.alloc (.cells #[.int .u64 0, .int .u64 0] 25)) = .ok (.slice (some ⟨g, 0, none⟩) (O.length + 1) cap) W2) ∧ O.length + 1 ≤ cap ∧ cap ≤ 9223372036854775807 ∧
      (∀ sT ty o0, (i < O.length → o0 = (i + 1) * 2) → (Builtin.copy_ #[44, sT] ty #[.slice (some ⟨g, o0, none⟩) (O.length + 1 - (i + 1)) (cap - (i + 1)), .slice (some ⟨g, i * 2, none⟩) (O.length + 1 - i) (cap - i)]).run Try.prog W2.drew = .ok (goInt (O.length - i : Nat)) W3) ∧
      (∃ z0 z1, W3.cell? ⟨g, i * 2, none⟩ = some z0 ∧ W3.cell? ⟨g, i * 2 + 1, none⟩ = some z1) ∧ (∀ j, W3.frozen? ⟨g, j, none⟩ = false) ∧ ((W3.setCell ⟨g, i * 2, none⟩ (.int .u64 (hiN p : Int))).setCell ⟨g, i * 2 + 1, none⟩ (.int .u64 (loN p : Int))).ownsRow B 25 2 (.slice (some ⟨g, 0, none⟩) (O.length + 1) cap) (O.length + 1) (adCs (O.take i ++ p :: O.drop i)) ∧
      B ≤ g ∧ Below B w0 W3 ∧ B ≤ W3.heap.size ∧ (∀ t x y e, RowAt W t [x, y] e → u.ownBlock ≠ some t → RowAt W3 t [x, y] e ∧ t ≠ g) := by
  obtain ⟨V, hV⟩ : ∃ V, V = W.alloc (.cells #[.int .u64 0, .int .u64 0] 25) := ⟨_, rfl⟩
  have hbN : Below W.heap.size W V := by rw [hV]; exact below_new (Below.refl _ _) _
  have hlit : HasAds V (.slice (some ⟨W.heap.size, 0, none⟩) 1 1) [0] := by rw [hV]; exact lit_one W 0
  have hB1 : B ≤ V.heap.size := Nat.le_trans hB hbN.size
  have hl1 := adCs_len O
  obtain ⟨g, cap, W2, hrun, h1, h2, hnc, hcm, hgb, hne⟩ : ∃ g cap W2, (∀ ty, (Builtin.append_ #[44, 44] ty #[u, .slice (some ⟨W.heap.size, 0, none⟩) 1 1]).run Try.prog V = .ok (.slice (some ⟨g, 0, none⟩) (O.length + 1) cap) W2) ∧ W2.ownsRow B 25 2 (.slice (some ⟨g, 0, none⟩) (O.length + 1) cap) (O.length + 1) (adCs O ++ adCs [0]) ∧ V.grownBy W2 u.ownBlock ∧ O.length + 1 ≤ cap ∧ cap ≤ 9223372036854775807 ∧ B ≤ g ∧ (∀ t x y e, RowAt W2 t [x, y] e → t < V.heap.size → t ≠ g) := by
    by_cases h0 : O.length = 0
    · have hu := hnil h0
      have hO0 : O = [] := List.eq_nil_of_length_eq_zero h0
      subst hu hO0
      obtain ⟨v', W2, hrun, h1, h2⟩ := append_row info_ad Try.underlying44 rfl (by decide) (World.ownsRow_nil V V.heap.size 25 2) hlit (one_ads [0]) (by decide) (by decide) (Nat.le_refl _)
      rcases h1.2 with ⟨_, h0⟩ | ⟨g, cap, cur, rfl, hgb, hgc, hnc, hcm, hcs, htk⟩
      · exact absurd h0 (by decide)
      · refine ⟨g, cap, W2, hrun, ⟨h1.1, .inr ⟨g, cap, cur, rfl, Nat.le_trans hB1 hgb, hgc, hnc, hcm, hcs, htk⟩⟩, h2, hnc, by unfold maxLen at hcm; exact hcm, Nat.le_trans hB1 hgb, fun t x y e _ ht => by omega⟩
    · obtain ⟨v', W2, hrun, h1, h2⟩ := append_row info_ad Try.underlying44 rfl (by decide) (own_below ho hbN) hlit (one_ads [0]) (by simp only [List.length_cons, List.length_nil]; omega) (by simp only [List.length_cons, List.length_nil]; omega) hB1
      simp only [List.length_cons, List.length_nil, Nat.zero_add] at h1
      rcases h1.2 with ⟨_, h0⟩ | ⟨g, cap, cur, rfl, hgb, hgc, hnc, hcm, hcs, htk⟩
      · omega
      · refine ⟨g, cap, W2, hrun, h1, h2, hnc, by unfold maxLen at hcm; exact hcm, hgb, fun t x y e hr _ h => ?_⟩
        subst h
        have h3 : W2.heap[t]? = some (.cells [x, y].toArray e (0, 0)) := hr
        rw [hgc] at h3
        injection h3 with h3
        injection h3 with h4 h5
        rw [h4] at hcs
        simp only [List.size_toArray, List.length_cons, List.length_nil] at hcs
        omega
  rw [hV] at hrun
  have hb2 : Below B w0 W2 := (hb0.trans (Below.mono hbN hB)).grown h2 hB1 (fun k e => (ho.lt k e).1)
  have hB2 : B ≤ W2.heap.size := Nat.le_trans hB1 h2.size
  have htt : ∀ t x y e, RowAt W t [x, y] e → u.ownBlock ≠ some t → RowAt W2 t [x, y] e ∧ t ≠ g := fun t x y e hr hne2 => by
    have hr2 : RowAt W2 t [x, y] e := RowAt.gkeep (hr.below hbN) h2 (fun h => hne2 h.symm)
    exact ⟨hr2, hne t x y e hr2 (Nat.lt_of_lt_of_le hr.lt hbN.size)⟩
  obtain ⟨W3, hr3, h3, h4⟩ : ∃ W3, (∀ sT ty o0, (i < O.length → o0 = (i + 1) * 2) → (Builtin.copy_ #[44, sT] ty #[.slice (some ⟨g, o0, none⟩) (O.length + 1 - (i + 1)) (cap - (i + 1)), .slice (some ⟨g, i * 2, none⟩) (O.length + 1 - i) (cap - i)]).run Try.prog W2.drew = .ok (goInt (O.length - i : Nat)) W3) ∧ W3.ownsRow B 25 2 (.slice (some ⟨g, 0, none⟩) (O.length + 1) cap) (O.length + 1) ((adCs O ++ adCs [0]).take ((i + 1) * 2) ++ (adCs O).drop (i * 2)) ∧ W2.drew.grownBy W3 (some g) := by
    have hl2 : (adCs O ++ adCs [0]).length = (O.length + 1) * 2 := by rw [List.length_append, hl1]; show _ + 2 = _; omega
    have hsrc : ∀ j v, ((adCs O).drop (i * 2))[j]? = some v → W2.drew.cell? ((⟨g, i * 2, none⟩ : Addr).add j) = some v := fun j v hj => by
      have hjl := (List.getElem?_eq_some_iff.1 hj).1
      rw [List.length_drop, hl1] at hjl
      rw [addr_add, show W2.drew.cell? ⟨g, i * 2 + j, none⟩ = W2.cell? ⟨g, i * 2 + j, none⟩ from rfl, h1.cellAt _ (by omega), List.getElem?_append_left (by omega), ← List.getElem?_drop]
      exact hj
    have h1d : W2.drew.ownsRow B 25 2 (.slice (some ⟨g, 0, none⟩) (O.length + 1) cap) (O.length + 1) (adCs O ++ adCs [0]) := h1
    have h1c : ∀ v ∈ (adCs O).drop (i * 2), v.oneCell' = true := fun v hv => one_ads O v (List.mem_of_mem_drop hv)
    by_cases hio : i < O.length
    · obtain ⟨W3, r1, r2, r3⟩ := own_copy Try.underlying44 size_ad h1d (i + 1) (O.length + 1 - (i + 1)) (cap - (i + 1)) ⟨g, i * 2, none⟩ (O.length + 1 - i) (cap - i) (O.length - i) ((adCs O).drop (i * 2)) (by simp only [Nat.min_def]; split <;> omega) (by rw [List.length_drop, hl1]; omega) (by omega) hsrc h1c
      refine ⟨W3, fun sT ty o0 h0 => ?_, ?_, r3⟩
      · rw [h0 hio]
        exact r1 sT ty
      · rw [List.drop_of_length_le (l := adCs O ++ adCs [0]) (by omega), List.append_nil] at r2
        exact r2
    · have hie : i = O.length := by omega
      refine ⟨W2.drew, fun sT ty o0 _ => ?_, ?_, ⟨rfl, rfl, rfl, Nat.le_refl _, fun _ _ _ => rfl⟩⟩
      · obtain ⟨i0, hi0, hz0, hz1, hz2⟩ := info_parts info_ad
        have hm1 : O.length - i = 0 := by omega
        have hld : (loadCells ⟨g, i * 2, none⟩ 0).run Try.prog W2.drew = .ok #[] W2.drew := by simpa using run_loadCells_list (P := Try.prog) W2.drew ⟨g, i * 2, none⟩ [] (by simp)
        simp [Builtin.copy_, run_underlying Try.underlying44, Builtin.lenOf, Builtin.firstCells, sizeOf, typeInfo, hi0, hm1, hld, storeCells]
      · rw [List.take_of_length_le (by omega), List.drop_of_length_le (by omega), List.append_nil]
        exact h1d
  have h5 := h3.stored (i * 2) (.int .u64 (hiN p : Int))
  have h6 := h5.1.stored (i * 2 + 1) (.int .u64 (loN p : Int))
  have hfin : (((adCs O ++ adCs [0]).take ((i + 1) * 2) ++ (adCs O).drop (i * 2)).set (i * 2) (.int .u64 (hiN p : Int))).set (i * 2 + 1) (.int .u64 (loN p : Int)) = adCs (O.take i ++ p :: O.drop i) := by
    have e0 : (adCs O ++ adCs [0]).take ((i + 1) * 2) = adCs ((O ++ [0]).take (i + 1)) := by rw [← adCs_app, adCs_take]
    rw [e0, adCs_drop, ← adCs_app, adCs_set _ p i (by simp only [List.length_append, List.length_take, List.length_cons, List.length_nil, List.length_drop]; omega)]
    congr 1
    have e1 : (O ++ [0]).take (i + 1) = O.take i ++ ((O ++ [0]).drop i).take 1 := by
      rw [List.take_add, List.take_append_of_le_length (by omega)]
    have e2 : (((O ++ [0]).drop i).take 1).length = 1 := by rw [List.length_take, List.length_drop, List.length_append]; simp; omega
    obtain ⟨z, hz⟩ : ∃ z, ((O ++ [0]).drop i).take 1 = [z] := List.length_eq_one_iff.1 e2
    rw [e1, hz, List.append_assoc, List.set_append_right _ _ (by rw [List.length_take]; omega), List.length_take, Nat.min_eq_left (by omega), Nat.sub_self, List.singleton_append, List.set_cons_zero]
  rw [hfin] at h6
  refine ⟨g, cap, W2, W3, hrun, hnc, hcm, hr3, ?_, fun j => h3.frozenAt j, h6.1, hgb, ?_, ?_, fun t x y e h7 h8 => ?_⟩
  · have k0 := h3.cellAt (i * 2) (by omega)
    have k1 := h3.cellAt (i * 2 + 1) (by omega)
    exact ⟨_, _, k0.trans (List.getElem?_eq_getElem (by rw [h3.1]; omega)), k1.trans (List.getElem?_eq_getElem (by rw [h3.1]; omega))⟩
  · exact (below_drew hb2).grown h4 hB2 (fun k e => by injection e with e; omega)
  · exact Nat.le_trans hB2 h4.size
  · obtain ⟨k1, k2⟩ := htt t x y e h7 h8
    exact ⟨RowAt.gkeep (X := W2.drew) k1 h4 (fun h => by injection h with h; exact k2 h), k2⟩
end Go.Proofs.Ytjgieaijdkmadaa.Ct
namespace Go.Proofs.Ytjgieaijdkmadaa.Ct
open Go.RowKit
open Go.Proofs.Ytjgieaijdkmadaa.Addr (hiN loN adV cmpN ad_eql ad_guard RowAt below2 below_drew below_new bset RowAt.lt RowAt.cell RowAt.frozen RowAt.below RowAt.drew RowAt.new RowAt.alloc cells2 RowAt.gkeep Bl bl_ne wp_region_bl bl_call)
open Go.Proofs.Ytjgieaijdkmadaa.Lk (hasRow_own)
attribute [-go_sem] Builtin.append_
def NilIf (n : Nat) (u : Value) : Prop := n = 0 → u = .slice none 0 0
set_option maxHeartbeats 8000000 in
set_option maxRecDepth 20000 in
theorem sorted_any (l : List Nat) (v : Value) (w : World) (hl : HasAds w v l) (hf : ∀ x ∈ l, x < 2 ^ 128) (hlen : l.length ≤ 1000000) :
    Calls Try.prog 51 #[v] w fun e w' => ∃ u, e = .returned u ∧ HasAds w' u (sortN l) ∧ Below w.heap.size w w' := by
  obtain ⟨o, c, rfl, hc1, hc2⟩ := Lk.HasRow.slice hl
  have HR : Hid (∀ wr : World, Below w.heap.size w wr → HasAds wr (.slice o l.length c) l) := fun wr hb => hl.keep hb
  have HF : Hid (∀ x ∈ l, x < 2 ^ 128) := hf
  obtain ⟨n, hn⟩ : ∃ n, n = l.length := ⟨_, rfl⟩
  have HN : Hid (n = l.length) := hn
  rw [← hn] at HR hc1 hlen ⊢
  have hni : (n : Int) ≤ 1000000 := by omega
  clear hl hn hf
  have Hcm : Hid (∀ (x y : Nat) (W : World), x < 2 ^ 128 → y < 2 ^ 128 → Calls Try.prog 64 #[.agg #[.int .u64 (hiN x : Int), .int .u64 (loN x : Int)], .agg #[.int .u64 (hiN y : Int), .int .u64 (loN y : Int)]] W fun e w' => e = .returned (.int .i64 (cmpN x y)) ∧ Below W.heap.size W w') := fun x y W hx hy => Go.Proofs.Ytjgieaijdkmadaa.Addr.rcmp_any x y W hx hy
  have Hq : Hid (∀ (x y : Nat) (W : World), (binOp .eql 25 (.agg #[.int .u64 (hiN x : Int), .int .u64 (loN x : Int)]) (.agg #[.int .u64 (hiN y : Int), .int .u64 (loN y : Int)])).run Try.prog W = .ok (.bool (decide (x = y))) W) := fun x y W => ad_eql x y W
  have H0 : Hid (w.ownsRow w.heap.size 25 2 (.slice none 0 0) (sortN (l.take 0)).length (adCs (sortN (l.take 0))) ∧ Below w.heap.size w w ∧ NilIf (sortN (l.take 0)).length (.slice none 0 0)) := ⟨by have h0 := World.ownsRow_nil w w.heap.size 25 2; rw [List.take_zero]; exact h0, Below.refl _ _, fun _ => rfl⟩
  go_enter Try.func51, Try.ntmps51
  go_wp2_with fail
  go_loopw [3, 9] (fun u q wr => ∃ k : Nat, k ≤ n ∧ q = .int .i64 k ∧ Hid (wr.ownsRow w.heap.size 25 2 u (sortN (l.take k)).length (adCs (sortN (l.take k))) ∧ Below w.heap.size w wr ∧ NilIf (sortN (l.take k)).length u)) (fun _ q _ => n - (Go.RowKit.intOf q).toNat)
  case atStart => exact ⟨0, by omega, rfl, H0⟩
  case round =>
    obtain ⟨k, hk, rfl, HI⟩ := hrel
    clear H0
    by_cases hlt : k < n
    · have hkz : k < l.length := by rw [← HN.out]; exact hlt
      obtain ⟨g1, i1, rfl, hg1, a0, a1⟩ := HasAds.cell (HR.out _ HI.out.2.1) k hkz
      have HS : Hid (sortN (l.take (k + 1)) = insN (sortN (l.take k)) l[k]) := sortN_snoc l k hkz
      have HU : Hid (Up (sortN (l.take k))) := up_sortN _
      have HFO : Hid (∀ x ∈ sortN (l.take k), x < 2 ^ 128) := fun x hx => HF.out x (List.mem_of_mem_take ((mem_sortN _ _).1 hx))
      have HP : Hid (l[k] < 2 ^ 128) := HF.out _ (List.getElem_mem hkz)
      have HL : Hid ((sortN (l.take k)).length ≤ 999999) := by
        have := sortN_len (l.take k)
        rw [List.length_take] at this
        show _ ≤ _
        omega
      have hki : (k : Int) < (n : Int) := by omega
      generalize l[k] = p at a0 a1 HS HP
      generalize sortN (l.take k) = O at HI HS HU HL HFO
      obtain ⟨hO, hbr, hnil⟩ := HI.out
      clear HI hg1
      obtain ⟨o1, c1, rfl, hq1, hq2⟩ := Lk.HasRow.slice (hasRow_own hO)
      have HNIL : Hid (NilIf O.length (.slice o1 O.length c1)) := hnil
      clear hnil
      go_upto_region 5 with fail
      obtain ⟨X, hX⟩ : ∃ X, X = wr.alloc (.cells #[.int .u64 (hiN p : Int), .int .u64 (loN p : Int)] 25) := ⟨_, rfl⟩
      have hbX : Below wr.heap.size wr X := by rw [hX]; exact below_new (Below.refl _ _) _
      have r0 : RowAt X wr.heap.size [.int .u64 (hiN p : Int), .int .u64 (loN p : Int)] 25 := by rw [hX]; exact RowAt.new _ _ _
      rw [← hX]
      have hgo : (Value.slice o1 O.length c1).ownBlock ≠ some wr.heap.size := fun e => by have := (hO.lt _ e).2; omega
      replace hO := own_below hO hbX
      have hbw : Below w.heap.size w X := below2 hbr hbX
      clear hX hbX a0 a1 hbr
      generalize wr.heap.size = gs at r0 hgo ⊢
      have HO : Hid (X.ownsRow w.heap.size 25 2 (.slice o1 O.length c1) O.length (adCs O)) := hO
      have hm := HL.out
      obtain ⟨m, hmd⟩ : ∃ m, m = O.length := ⟨_, rfl⟩
      have HM : Hid (m = O.length) := hmd
      have H1 : Hid (∀ j (h : j < O.length), m ≤ j → p < O[j]) := fun j h hj => by omega
      have hwB : w.heap.size ≤ X.heap.size := hbw.size
      rw [← hmd] at hm hq1 ⊢
      have hmi : (m : Int) ≤ 999999 := by omega
      clear hO hmd
      go_wp2_with fail
      go_loopw [6] (fun q wr2 => ∃ i : Nat, i ≤ m ∧ q = .int .i64 i ∧ Hid (∀ j (h : j < O.length), i ≤ j → p < O[j]) ∧ Below X.heap.size X wr2) (fun q _ => (Go.RowKit.intOf q).toNat)
      case atStart => exact ⟨m, Nat.le_refl _, rfl, H1, Below.refl _ _⟩
      case round =>
        obtain ⟨i, hi, rfl, HJ, hbJ⟩ := hrel
        clear H1
        have r2 := RowAt.below r0 hbJ
        have hli : (i : Int) ≤ 999999 := by omega
        have v0 : ∀ q : Bl wr, q.W.cell? ⟨gs, 0, none⟩ = some (.int .u64 (hiN p : Int)) := fun q => (r2.below q.h).cell 0
        have v1 : ∀ q : Bl wr, q.W.cell? ⟨gs, 1, none⟩ = some (.int .u64 (loN p : Int)) := fun q => (r2.below q.h).cell 1
        haveI := bl_ne wr
        by_cases hi0 : 0 < i
        · obtain ⟨b2, i2, rfl, _, b0, b1⟩ := HasAds.cell (l := O) (show HasAds wr (.slice o1 O.length c1) O from hasRow_own (own_below HO.out hbJ)) (i - 1) (by have := HM.out; omega)
          clear b0 b1
          have hip : (0 : Int) < (i : Int) := by omega
          have hip1 : decide ((0 : Int) < (i : Int)) = true := decide_eq_true hip
          have hip2 : decide (0 < i) = true := decide_eq_true hi0
          obtain ⟨j, hj⟩ : ∃ j, i = j + 1 := ⟨i - 1, by omega⟩
          have hjO : j < O.length := by have := HM.out; omega
          have hsub : (i : Int) - 1 = (j : Int) := by omega
          have hwj : IntKind.i64.wrap (j : Int) = (j : Int) := by rw [IntKind.wrap_i64]; omega
          have hlt1 : (j : Int) < (m : Int) := by omega
          have HQL : Hid (O[j] < 2 ^ 128) := HFO.out _ (List.getElem_mem hjO)
          generalize hq : O[j] = q at HQL
          have HQ2 : Hid (∀ h : j < O.length, O[j] = q) := fun _ => hq
          clear hq
          have HBQ : Hid (∀ W : World, Below X.heap.size X W → W.cell? ⟨b2, i2 + j * 2, none⟩ = some (.int .u64 (hiN q : Int)) ∧ W.cell? ⟨b2, i2 + j * 2 + 1, none⟩ = some (.int .u64 (loN q : Int))) := fun W hb => by
            obtain ⟨b3, i3, e3, _, c3, c4⟩ := HasAds.cell (l := O) (show HasAds W (.slice (some ⟨b2, i2, none⟩) O.length c1) O from hasRow_own (own_below HO.out hb)) j hjO
            injection e3 with e3
            injection e3 with e31 e32
            subst e31 e32
            rw [HQ2.out] at c3 c4
            exact ⟨c3, c4⟩
          have u0 : ∀ x : Bl wr, x.W.cell? ⟨b2, i2 + j * 2, none⟩ = some (.int .u64 (hiN q : Int)) := fun x => (HBQ.out x.W (hbJ.trans (x.h.mono hbJ.size))).1
          have u1 : ∀ x : Bl wr, x.W.cell? ⟨b2, i2 + j * 2 + 1, none⟩ = some (.int .u64 (loN q : Int)) := fun x => (HBQ.out x.W (hbJ.trans (x.h.mono hbJ.size))).2
          have cm := fun W => Hcm.out q p W HQL.out HP.out
          have HCZ : Hid ((0 : Int) < cmpN q p ↔ p < q) := by
            show _ ↔ _
            unfold cmpN
            split
            · exact ⟨fun h => by omega, fun h => by omega⟩
            · split
              · exact ⟨fun h => by omega, fun h => by omega⟩
              · exact ⟨fun h => by omega, fun h => by omega⟩
          generalize cmpN q p = cz at cm HCZ
          have HIJ : Hid (i = j + 1) := hj
          clear hj hjO
          by_cases hpq : p < q
          · have hd0 : (0 : Int) < cz := HCZ.out.2 hpq
            have hd : decide ((0 : Int) < cz) = true := decide_eq_true hd0
            have HJ2 : Hid (∀ y (h : y < O.length), j ≤ y → p < O[y]) := fun y h hy => by
              by_cases e : y = j
              · subst e; rw [HQ2.out]; exact hpq
              · exact HJ.out y h (by have := HIJ.out; omega)
            clear HCZ
            go_wp2_with fail
            refine wp_region_bl (by kernel_rfl) (by kernel_rfl) ?_
            repeat (go_big_quiet_step (first | (go_at_call 64; with_reducible exact bl_call (cm _))))
            refine wpQuiet_nil ?_
            intro Y hw'
            obtain ⟨⟨wy, hqq⟩, hw2⟩ := hw'
            subst hw2
            have hbY : Below X.heap.size X Y := hbJ.trans (hqq.mono hbJ.size)
            clear u0 u1 v0 v1 r2 cm
            go_wp2_with fail
            go_roundw
            case rel => exact ⟨j, by have := HIJ.out; omega, by first | rfl | (rw [← hsub]) | go_num, HJ2, hbY⟩
            case measure => have := HIJ.out; simp [Go.RowKit.intOf]; omega
          · have hd0 : ¬ ((0 : Int) < cz) := fun h => hpq (HCZ.out.1 h)
            have hd : decide ((0 : Int) < cz) = false := decide_eq_false hd0
            clear HCZ
            go_wp2_with fail
            refine wp_region_bl (by kernel_rfl) (by kernel_rfl) ?_
            repeat (go_big_quiet_step (first | (go_at_call 64; with_reducible exact bl_call (cm _))))
            refine wpQuiet_nil ?_
            intro Y hw'
            obtain ⟨⟨wy, hqq⟩, hw2⟩ := hw'
            subst hw2
            have hbY : Below X.heap.size X Y := hbJ.trans (hqq.mono hbJ.size)
            clear u0 u1 v0 v1 r2 cm hqq
            go_wp2_with fail
            have r2 := RowAt.below r0 hbY
            have v0 : ∀ x : Bl Y, x.W.cell? ⟨gs, 0, none⟩ = some (.int .u64 (hiN p : Int)) := fun x => (r2.below x.h).cell 0
            have v1 : ∀ x : Bl Y, x.W.cell? ⟨gs, 1, none⟩ = some (.int .u64 (loN p : Int)) := fun x => (r2.below x.h).cell 1
            have u0 : ∀ x : Bl Y, x.W.cell? ⟨b2, i2 + j * 2, none⟩ = some (.int .u64 (hiN q : Int)) := fun x => (HBQ.out x.W (hbY.trans (x.h.mono hbY.size))).1
            have u1 : ∀ x : Bl Y, x.W.cell? ⟨b2, i2 + j * 2 + 1, none⟩ = some (.int .u64 (loN q : Int)) := fun x => (HBQ.out x.W (hbY.trans (x.h.mono hbY.size))).2
            have heq := fun W => Hq.out q p W
            have hgd := ad_guard
            haveI := bl_ne Y
            have HDE : Hid (decide (q = p) = true ↔ q = p) := decide_eq_true_iff
            generalize decide (q = p) = E at heq HDE
            refine wp_region_bl (by kernel_rfl) (by kernel_rfl) ?_
            repeat (go_big_quiet_step (fail))
            refine wpQuiet_nil ?_
            intro Z hw'
            obtain ⟨⟨wy, hqq⟩, hw2⟩ := hw'
            subst hw2
            have hbZ : Below X.heap.size X Z := hbY.trans (hqq.mono hbY.size)
            clear u0 u1 v0 v1 r2 heq hqq hgd HBQ
            have r2 := RowAt.below r0 hbZ
            cases E
            · have hqp : ¬ q = p := fun h => by have := HDE.out.2 h; cases this
              have HA : Hid (∀ y (h : y < O.length), y < i → O[y] < p) := fun y h hy => by
                have h0 := HIJ.out
                have h1 := HQ2.out (by have := HM.out; omega)
                by_cases e : y = j
                · subst e; omega
                · have h2 := List.pairwise_iff_getElem.1 HU.out y j h (by have := HM.out; omega) (by omega)
                  omega
              clear HDE hqp hpq hsub hwj hlt1
              have HE : Hid (sortN (l.take (k + 1)) = O.take i ++ p :: O.drop i) := by
                show _ = _
                rw [HS.out, insN_at HU.out p i (by have := HM.out; omega) HJ.out HA.out]
              obtain ⟨g, cap, W2, W3, hrun, hcp1, hcp2, hcp, ⟨z0, z1, hz0, hz1⟩, hfz, hown, hBg, hbW3, hBW3, htt⟩ := put_ads (w0 := w) (W := Z) (B := w.heap.size) (O := O) p i (by have := HM.out; omega) (own_below HO.out hbZ) (Nat.le_trans hwB hbZ.size) (hbw.trans (Below.mono hbZ hwB)) (by have := HM.out; omega) HNIL.out
              rw [← HM.out] at hrun hcp1 hcp
              obtain ⟨r3, hgg⟩ := htt gs _ _ _ r2 hgo
              have HF : Hid (((W3.setCell ⟨g, i * 2, none⟩ (.int .u64 (hiN p : Int))).setCell ⟨g, i * 2 + 1, none⟩ (.int .u64 (loN p : Int))).ownsRow w.heap.size 25 2 (.slice (some ⟨g, 0, none⟩) (m + 1) cap) (sortN (l.take (k + 1))).length (adCs (sortN (l.take (k + 1)))) ∧ Below w.heap.size w ((W3.setCell ⟨g, i * 2, none⟩ (.int .u64 (hiN p : Int))).setCell ⟨g, i * 2 + 1, none⟩ (.int .u64 (loN p : Int))) ∧ NilIf (sortN (l.take (k + 1))).length (.slice (some ⟨g, 0, none⟩) (m + 1) cap)) := by
                have h9 := hown
                rw [← HM.out] at h9
                refine ⟨?_, bset (bset hbW3 hBg) hBg, fun h => ?_⟩
                · rw [HE.out, show (O.take i ++ p :: O.drop i).length = m + 1 by have := HM.out; simp; omega]
                  exact h9
                · rw [HE.out] at h
                  simp at h
              obtain ⟨y0, y1, yf⟩ := cells2 r3
              clear htt r2 r3 hown hbW3 hBW3 HE HO HJ hbZ
              have mixed : Try.prog.follows Departure.mixedOrders = true := by kernel_rfl
              have hw1 : IntKind.i64.wrap ((i : Int) + 1) = (i : Int) + 1 := by rw [IntKind.wrap_i64]; omega
              have hb1 : (0 : Int) ≤ (i : Int) + 1 := by omega
              have hle1 : (i : Int) + 1 ≤ (m : Int) + 1 := by omega
              have hle2 : (i : Int) ≤ (m : Int) + 1 := by omega
              have him : i ≤ m := by omega
              have htn : ((i : Int) + 1).toNat = i + 1 := by omega
              have hci : ¬ cap = i := by omega
              have hlt2 : (i : Int) < (m : Int) + 1 := by omega
              go_wp2_with fail
              by_cases hcapi : cap = i + 1
              · subst hcapi
                have hm0 : m - i = 0 := by omega
                have hq := hcp 44 3 0 (by have := HM.out; intro h; omega)
                go_region_law_o (refine Lk.copy_step rfl _ _ 44 44 rfl (by simp [Act.eval, Act.put, hm0]) (by simp [Act.eval, Act.put]) hq ?_)
                go_wp2_with fail
                go_roundw
                case rel => exact ⟨k + 1, by omega, by go_num, by first | exact HF | simpa using HF⟩
                case measure => simp [Go.RowKit.intOf]; omega
              · have hq := hcp 44 3 ((i + 1) * 2) (fun _ => rfl)
                go_region_law_o (refine Lk.copy_step rfl _ _ 44 44 rfl (by simp [Act.eval, Act.put]) (by simp [Act.eval, Act.put]) hq ?_)
                go_wp2_with fail
                go_roundw
                case rel => exact ⟨k + 1, by omega, by go_num, by first | exact HF | simpa using HF⟩
                case measure => simp [Go.RowKit.intOf]; omega
            · have hqp : q = p := HDE.out.1 rfl
              have HF2 : Hid (Z.ownsRow w.heap.size 25 2 (.slice (some ⟨b2, i2, none⟩) m c1) (sortN (l.take (k + 1))).length (adCs (sortN (l.take (k + 1)))) ∧ Below w.heap.size w Z ∧ NilIf (sortN (l.take (k + 1))).length (.slice (some ⟨b2, i2, none⟩) m c1)) := by
                have hmem : p ∈ O := by rw [← hqp, ← HQ2.out (by have := HIJ.out; have := HM.out; omega)]; exact List.getElem_mem _
                rw [HS.out, insN_in HU.out hmem]
                have h0 := HM.out
                refine ⟨?_, hbw.trans (Below.mono hbZ hwB), fun h => by rw [h0]; exact HNIL.out h⟩
                rw [h0]
                exact own_below HO.out hbZ
              clear hqp HDE
              go_wp2_with fail
              go_roundw
              case rel => exact ⟨k + 1, by omega, by go_num, by first | exact HF2 | simpa using HF2⟩
              case measure => simp [Go.RowKit.intOf]; omega
        · have hip : ¬ ((0 : Int) < (i : Int)) := by omega
          have hip1 : decide ((0 : Int) < (i : Int)) = false := decide_eq_false hip
          have hip2 : decide (0 < i) = false := decide_eq_false hi0
          have HA : Hid (∀ y (h : y < O.length), y < i → O[y] < p) := fun y h hy => by omega
          go_wp2_with fail
          refine wp_region_bl (by kernel_rfl) (by kernel_rfl) ?_
          repeat (go_big_quiet_step (fail))
          refine wpQuiet_nil ?_
          intro Y hw'
          obtain ⟨⟨wy, hqq⟩, hw2⟩ := hw'
          subst hw2
          have hbY : Below X.heap.size X Y := hbJ.trans (hqq.mono hbJ.size)
          clear v0 v1 r2 hqq
          go_wp2_with fail
          haveI := bl_ne Y
          refine wp_region_bl (by kernel_rfl) (by kernel_rfl) ?_
          repeat (go_big_quiet_step (fail))
          refine wpQuiet_nil ?_
          intro Z hw'
          obtain ⟨⟨wy, hqq⟩, hw2⟩ := hw'
          subst hw2
          have hbZ : Below X.heap.size X Z := hbY.trans (hqq.mono hbY.size)
          clear hqq
          have r2 := RowAt.below r0 hbZ
          have HE : Hid (sortN (l.take (k + 1)) = O.take i ++ p :: O.drop i) := by
            show _ = _
            rw [HS.out, insN_at HU.out p i (by have := HM.out; omega) HJ.out HA.out]
          obtain ⟨g, cap, W2, W3, hrun, hcp1, hcp2, hcp, ⟨z0, z1, hz0, hz1⟩, hfz, hown, hBg, hbW3, hBW3, htt⟩ := put_ads (w0 := w) (W := Z) (B := w.heap.size) (O := O) p i (by have := HM.out; omega) (own_below HO.out hbZ) (Nat.le_trans hwB hbZ.size) (hbw.trans (Below.mono hbZ hwB)) (by have := HM.out; omega) HNIL.out
          rw [← HM.out] at hrun hcp1 hcp
          obtain ⟨r3, hgg⟩ := htt gs _ _ _ r2 hgo
          have HF : Hid (((W3.setCell ⟨g, i * 2, none⟩ (.int .u64 (hiN p : Int))).setCell ⟨g, i * 2 + 1, none⟩ (.int .u64 (loN p : Int))).ownsRow w.heap.size 25 2 (.slice (some ⟨g, 0, none⟩) (m + 1) cap) (sortN (l.take (k + 1))).length (adCs (sortN (l.take (k + 1)))) ∧ Below w.heap.size w ((W3.setCell ⟨g, i * 2, none⟩ (.int .u64 (hiN p : Int))).setCell ⟨g, i * 2 + 1, none⟩ (.int .u64 (loN p : Int))) ∧ NilIf (sortN (l.take (k + 1))).length (.slice (some ⟨g, 0, none⟩) (m + 1) cap)) := by
            have h9 := hown
            rw [← HM.out] at h9
            refine ⟨?_, bset (bset hbW3 hBg) hBg, fun h => ?_⟩
            · rw [HE.out, show (O.take i ++ p :: O.drop i).length = m + 1 by have := HM.out; simp; omega]
              exact h9
            · rw [HE.out] at h
              simp at h
          obtain ⟨y0, y1, yf⟩ := cells2 r3
          clear htt r2 r3 hown hbW3 hBW3 HE HO HJ hbZ
          have mixed : Try.prog.follows Departure.mixedOrders = true := by kernel_rfl
          have hw1 : IntKind.i64.wrap ((i : Int) + 1) = (i : Int) + 1 := by rw [IntKind.wrap_i64]; omega
          have hb1 : (0 : Int) ≤ (i : Int) + 1 := by omega
          have hle1 : (i : Int) + 1 ≤ (m : Int) + 1 := by omega
          have hle2 : (i : Int) ≤ (m : Int) + 1 := by omega
          have him : i ≤ m := by omega
          have htn : ((i : Int) + 1).toNat = i + 1 := by omega
          have hci : ¬ cap = i := by omega
          have hlt2 : (i : Int) < (m : Int) + 1 := by omega
          go_wp2_with fail
          by_cases hcapi : cap = i + 1
          · subst hcapi
            have hm0 : m - i = 0 := by omega
            have hq := hcp 44 3 0 (by have := HM.out; intro h; omega)
            go_region_law_o (refine Lk.copy_step rfl _ _ 44 44 rfl (by simp [Act.eval, Act.put, hm0]) (by simp [Act.eval, Act.put]) hq ?_)
            go_wp2_with fail
            go_roundw
            case rel => exact ⟨k + 1, by omega, by go_num, by first | exact HF | simpa using HF⟩
            case measure => simp [Go.RowKit.intOf]; omega
          · have hq := hcp 44 3 ((i + 1) * 2) (fun _ => rfl)
            go_region_law_o (refine Lk.copy_step rfl _ _ 44 44 rfl (by simp [Act.eval, Act.put]) (by simp [Act.eval, Act.put]) hq ?_)
            go_wp2_with fail
            go_roundw
            case rel => exact ⟨k + 1, by omega, by go_num, by first | exact HF | simpa using HF⟩
            case measure => simp [Go.RowKit.intOf]; omega
    · have hkn : decide ((k : Int) < (n : Int)) = false := decide_eq_false (by omega)
      have hte : l.take k = l := by have := HN.out; exact List.take_of_length_le (by omega)
      have HF2 : Hid (HasAds wr u3 (sortN l) ∧ Below w.heap.size w wr) := by rw [hte] at HI; exact ⟨hasRow_own HI.out.1, HI.out.2.1⟩
      clear hte HI
      go_wp2_with fail
      go_ret
      exact ⟨_, rfl, HF2.out.1, HF2.out.2⟩
end Go.Proofs.Ytjgieaijdkmadaa.Ct
namespace Go.Proofs.Ytjgieaijdkmadaa.Ct
open Go.RowKit
open Go.Proofs.Ytjgieaijdkmadaa.Addr (Pf pfV okP rightB lastE nextE lastN wideN hiN loN adV cmpN ad_neq ad_guard RowAt below2 below_drew below_new bset RowAt.lt RowAt.cell RowAt.frozen RowAt.below RowAt.drew RowAt.new RowAt.alloc RowAt.gkeep cells2)
open Go.Proofs.Ytjgieaijdkmadaa.Lk (hasRow_own)
open Go.Proofs.Ytjgieaijdkmadaa.Tr (Rt HasRts HasRts.keep FitR okT okR checkT six_at six_of)
attribute [-go_sem] Builtin.append_
set_option maxHeartbeats 2000000 in
set_option maxRecDepth 20000 in
theorem alike_any (l : List Nat) (v u : Value) (w : World) (h1 : HasAds w v l) (h2 : HasAds w u l) :
    Calls Try.prog 23 #[v, u] w fun e w' => e = .returned (.bool true) ∧ Below w.heap.size w w' := by
  obtain ⟨o1, c1, rfl, hq1, hq2⟩ := Lk.HasRow.slice h1
  obtain ⟨o2, c2, rfl, _, _⟩ := Lk.HasRow.slice h2
  have HR : Hid (∀ wr : World, Below w.heap.size w wr → HasAds wr (.slice o1 l.length c1) l ∧ HasAds wr (.slice o2 l.length c2) l) := fun wr hb => ⟨h1.keep hb, h2.keep hb⟩
  obtain ⟨n, hn⟩ : ∃ n, n = l.length := ⟨_, rfl⟩
  have HN : Hid (n = l.length) := hn
  rw [← hn] at HR hq1 ⊢
  have hni : (n : Int) ≤ 9223372036854775807 := by omega
  have hgd := ad_guard
  have hnn : ((n : Int) != (n : Int)) = false := by simp
  clear h1 h2 hn hq1 hq2
  go_enter Try.func23, Try.ntmps23
  go_wp2_with fail
  go_loopw [13] (fun i wr => ∃ k : Nat, k ≤ n ∧ i = .int .i64 k ∧ Below w.heap.size w wr) (fun i _ => n - (Go.RowKit.intOf i).toNat)
  case atStart => exact ⟨0, by omega, rfl, Below.refl _ _⟩
  case round =>
    obtain ⟨k, hk, rfl, hB⟩ := hrel
    obtain ⟨ha, hb⟩ := HR.out _ hB
    by_cases hlt : k < n
    · have hkz : k < l.length := by rw [← HN.out]; exact hlt
      obtain ⟨g1, i1, rfl, _, x0, x1⟩ := HasAds.cell ha k hkz
      obtain ⟨g2, i2, rfl, _, y0, y1⟩ := HasAds.cell hb k hkz
      have hneq : ∀ W, (binOp .neq 25 (.agg #[.int .u64 (hiN l[k] : Int), .int .u64 (loN l[k] : Int)]) (.agg #[.int .u64 (hiN l[k] : Int), .int .u64 (loN l[k] : Int)])).run Try.prog W = .ok (.bool false) W := fun W => by
        have := ad_neq l[k] l[k] W
        rw [decide_eq_true rfl] at this
        exact this
      generalize ((hiN l[k] : Nat) : Int) = p1 at *
      generalize ((loN l[k] : Nat) : Int) = p2 at *
      have hki : (k : Int) < (n : Int) := by omega
      clear ha hb
      go_wp2_with fail
      go_quiet (fail)
      go_wp2_with fail
      go_roundw
      case rel => exact ⟨k + 1, by omega, by go_num, by first | exact hB | exact below_drew hB | exact below_drewN hB _⟩
      case measure => simp [Go.RowKit.intOf]; omega
    · clear ha hb
      go_wp2
      go_ret
      exact ⟨rfl, hB⟩
/-- the document leaves out what has no next: 0 is a cut all the same -/
def partD (six : Bool) (r : Rt) : List Nat := if r.pf.six = six then (r.pf.n :: if (nextE six (lastE r.pf).1).2 = 0 then [(nextE six (lastE r.pf).1).1] else []) else []
def partsD (l : List Rt) (six : Bool) : List Nat := l.flatMap (partD six)
theorem next_zero (six : Bool) (a : Nat) (h : ¬ (nextE six a).2 = 0) : (nextE six a).1 = 0 := by
  unfold nextE at h ⊢
  split
  · rename_i h1
    rw [if_pos h1] at h
    split
    · rfl
    · rename_i h2
      rw [if_neg h2] at h
      exact absurd rfl h
  · rfl
theorem partsD_same (l : List Rt) (six : Bool) : sortN (0 :: partsD l six) = sortN (0 :: partsC l six) := by
  refine sortN_of (up_sortN _) (fun z => ?_)
  rw [mem_sortN]
  simp only [List.mem_cons, partsC, partsD, List.mem_flatMap]
  have key : ∀ r : Rt, (z ∈ partD six r → z ∈ partC six r) ∧ (z ∈ partC six r → z = 0 ∨ z ∈ partD six r) := fun r => by
    unfold partD partC
    by_cases h1 : r.pf.six = six
    · rw [if_pos h1, if_pos h1]
      by_cases h2 : (nextE six (lastE r.pf).1).2 = 0
      · rw [if_pos h2]
        exact ⟨fun h => h, fun h => .inr h⟩
      · rw [if_neg h2, next_zero _ _ h2]
        refine ⟨fun h => ?_, fun h => ?_⟩
        · simp only [List.mem_cons, List.not_mem_nil, or_false] at h ⊢
          exact .inl h
        · simp only [List.mem_cons, List.not_mem_nil, or_false] at h ⊢
          rcases h with h | h
          · exact .inr h
          · exact .inl h
    · rw [if_neg h1, if_neg h1]
      exact ⟨fun h => h, fun h => .inr h⟩
  constructor
  · rintro (h | ⟨r, hr, h⟩)
    · exact .inl h
    · exact .inr ⟨r, hr, (key r).1 h⟩
  · rintro (h | ⟨r, hr, h⟩)
    · exact .inl h
    · rcases (key r).2 h with h | h
      · exact .inl h
      · exact .inr ⟨r, hr, h⟩
theorem partsD_snoc (l : List Rt) (six : Bool) (k : Nat) (h : k < l.length) : partsD (l.take (k + 1)) six = partsD (l.take k) six ++ partD six l[k] := by
  unfold partsD
  rw [List.take_succ_eq_append_getElem h, List.flatMap_append]
  simp
theorem partD_len (six : Bool) (r : Rt) : (partD six r).length ≤ 2 := by unfold partD; split <;> (try split) <;> simp
theorem partsD_len (l : List Rt) (six : Bool) : (partsD l six).length ≤ 2 * l.length := by
  induction l with
  | nil => exact Nat.zero_le _
  | cons x l ih =>
    show (partD six x ++ partsD l six).length ≤ _
    have := partD_len six x
    rw [List.length_append, List.length_cons]
    omega
theorem partsD_lt {l : List Rt} (hf : ∀ r ∈ l, FitR r) (six : Bool) : ∀ x ∈ (0 :: partsD l six), x < 2 ^ 128 := by
  intro x hx
  have : x ∈ sortN (0 :: partsD l six) := (mem_sortN _ _).2 hx
  rw [partsD_same, mem_sortN] at this
  exact partsC_lt hf six x this
theorem OwnC.app3 {w W : World} {v u : Value} {m news : List Nat} (h : OwnC w W v m) (hu : HasAds W u news) (hl : m.length + news.length ≤ 1000000) :
    ∃ v' w3, (∀ ty, (Builtin.append_ #[44, 44] ty #[v, u]).run Try.prog W = .ok v' w3) ∧ OwnC w w3 v' (m ++ news) ∧ (∀ t cs e, RowAt W t cs e → e ≠ 25 → RowAt w3 t cs e) := by
  obtain ⟨v', w3, hrun, ho, hg⟩ := Lk.append_row info_ad Try.underlying44 rfl (by decide) h.own hu (one_ads news) (by omega) (by omega) h.bl.size
  rw [← adCs_app, ← List.length_append] at ho
  refine ⟨v', w3, hrun, ⟨ho, h.bl.grown hg h.bl.size (fun k e => (h.own.lt k e).1)⟩, fun t cs e hr he => RowAt.gkeep hr hg (fun hb => he ?_)⟩
  rcases h.own.2 with ⟨e0, _⟩ | ⟨g, cap, cur, e1, hgb, hgc, _⟩
  · rw [e0] at hb; cases hb
  · rw [e1] at hb
    injection hb with hb
    subst hb
    have h3 : W.heap[t]? = some (.cells cs.toArray e (0, 0)) := hr
    rw [hgc] at h3
    injection h3 with h3
    injection h3 with h4 h5
    exact h5.symm
theorem lit_one' (W : World) (a : Nat) : HasAds (W.alloc (.cells #[.int .u64 (hiN a : Int), .int .u64 (loN a : Int)] 25)) (.slice (some ⟨W.heap.size, 0, none⟩) 1 1) [a] := lit_one W a
set_option maxHeartbeats 8000000 in
set_option maxRecDepth 20000 in
theorem rcuts_walk (l : List Rt) (o : Option Addr) (n c : Nat) (six : Bool) (w : World) (hn : n = l.length) (hlen : n ≤ 256) (hl : HasRts w (.slice o n c) l) (hfit : ∀ r ∈ l, FitR r)
    (cc : ∀ W, HasRts W (.slice o n c) l → Calls Try.prog 17 #[.slice o n c] W fun e w' => e = .returned (.int .i64 0) ∧ Below W.heap.size W w') :
    Calls Try.prog 22 #[.slice o n c, .bool six] w fun e w' => ∃ v, e = .returned (.tuple #[v, .int .i64 0]) ∧ HasAds w' v (sortN (0 :: partsD l six)) ∧ Below w.heap.size w w' := by
  have HN : Hid (n = l.length) := hn
  have HR : Hid (∀ wr : World, Below w.heap.size w wr → HasRts wr (.slice o n c) l) := fun wr hb => hl.keep hb
  have HF : Hid (∀ r ∈ l, FitR r) := hfit
  have HFE : Hid (∀ x ∈ (0 :: partsD l six), x < 2 ^ 128) := partsD_lt hfit six
  have hni : (n : Int) ≤ 256 := by omega
  have cl : Hid (∀ (p : Pf) (W : World), Tr.FitP p → Calls Try.prog 49 #[pfV p] W fun e w' => e = .returned (.tuple #[adV (lastE p).1, .int .i64 (lastE p).2]) ∧ Below W.heap.size W w') := fun p W h => Addr.rlast_any p W h.1 h.2
  have cx : Hid (∀ (a : Nat) (W : World), a < 2 ^ 128 → Calls Try.prog 50 #[.bool six, adV a] W fun e w' => e = .returned (.tuple #[adV (nextE six a).1, .int .i64 (nextE six a).2]) ∧ Below W.heap.size W w') := fun a W h => Addr.rnext_any six a W h
  clear hn hfit
  go_enter Try.func22, Try.ntmps22
  go_wp2_with fail
  go_at_call 17; refine (cc _ hl).mono ?_; rintro e w1 ⟨rfl, hb1⟩
  clear cc hl
  obtain ⟨Y, hY⟩ : ∃ Y, Y = w1.alloc (.cells #[.int .u64 0, .int .u64 0] 25) := ⟨_, rfl⟩
  have H0 : Hid (OwnC w Y (.slice (some ⟨w1.heap.size, 0, none⟩) 1 1) (0 :: partsD (l.take 0) six)) := by
    rw [hY]
    exact ⟨World.ownsRow_lit (base := w.heap.size) w1 #[.int .u64 0, .int .u64 0] 1 hb1.size (by decide) rfl, below_new hb1 _⟩
  go_upto_region 4 with fail
  rw [← hY]
  clear hY hb1
  go_wp2_with fail
  go_loopw [6, 20] (fun v q wr => ∃ k : Nat, k ≤ n ∧ q = .int .i64 (k : Int) ∧ Hid (OwnC w wr v (0 :: partsD (l.take k) six))) (fun _ q _ => n - (Go.RowKit.intOf q).toNat)
  case atStart => exact ⟨0, by omega, rfl, H0⟩
  case round =>
    obtain ⟨k, hk, rfl, HI⟩ := hrel
    clear H0
    by_cases hlt : k < n
    · have hkz : k < l.length := by rw [← HN.out]; exact hlt
      obtain ⟨g1, i1, rfl, hg1, ax⟩ := Tr.HasRts.cell (HR.out _ HI.out.bl) k hkz
      obtain ⟨a0, a1, a2, a3, a4, a5⟩ := six_at ax
      clear ax
      have HS : Hid (partsD (l.take (k + 1)) six = partsD (l.take k) six ++ partD six l[k]) := partsD_snoc l six k hkz
      have hfk := HF.out l[k] (List.getElem_mem hkz)
      have hpl := partsD_len (l.take k) six
      rw [List.length_take] at hpl
      have c1 : ∀ W : World, Calls Try.prog 49 #[.agg #[.bool l[k].pf.six, .int .u64 (hiN l[k].pf.n : Int), .int .u64 (loN l[k].pf.n : Int), .int .i64 l[k].pf.len]] W fun e w' => e = .returned (.tuple #[.agg #[.int .u64 (hiN (lastE l[k].pf).1 : Int), .int .u64 (loN (lastE l[k].pf).1 : Int)], .int .i64 (lastE l[k].pf).2]) ∧ Below W.heap.size W w' := fun W => cl.out l[k].pf W hfk.1
      have c2 : ∀ W : World, Calls Try.prog 50 #[.bool six, .agg #[.int .u64 (hiN (lastE l[k].pf).1 : Int), .int .u64 (loN (lastE l[k].pf).1 : Int)]] W fun e w' => e = .returned (.tuple #[.agg #[.int .u64 (hiN (nextE six (lastE l[k].pf).1).1 : Int), .int .u64 (loN (nextE six (lastE l[k].pf).1).1 : Int)], .int .i64 (nextE six (lastE l[k].pf).1).2]) ∧ Below W.heap.size W w' := fun W => cx.out _ W (last_lt _ hfk.1.2)
      have HP : Hid (partD six l[k] = if l[k].pf.six = six then (l[k].pf.n :: if (nextE six (lastE l[k].pf).1).2 = 0 then [(nextE six (lastE l[k].pf).1).1] else []) else []) := rfl
      have hpl2 : (partsD (l.take k) six).length ≤ 512 := by omega
      generalize partD six l[k] = PC at HS HP
      obtain ⟨x, hx⟩ : ∃ x : Rt, x = l[k] := ⟨_, rfl⟩
      rw [← hx] at a0 a1 a2 a3 a4 a5 c1 c2 HP
      clear hx hfk hpl
      obtain ⟨⟨s0, pn, pl⟩, ⟨ak, ai⟩⟩ := x
      simp only at a0 a1 a2 a3 a4 a5 c1 c2 HP
      generalize (lastE ⟨s0, pn, pl⟩).1 = la at *
      generalize (lastE ⟨s0, pn, pl⟩).2 = lz at *
      generalize (nextE six la).1 = na at *
      generalize (nextE six la).2 = nz at *
      have hki : (k : Int) < (n : Int) := by omega
      obtain ⟨X, hX⟩ : ∃ X, X = wr.alloc (.cells #[.bool s0, .int .u64 (hiN pn : Int), .int .u64 (loN pn : Int), .int .i64 pl, .int .u8 (ak : Int), .int .i64 ai] 32) := ⟨_, rfl⟩
      have hbX : Below wr.heap.size wr X := by rw [hX]; exact below_new (Below.refl _ _) _
      have r0 : RowAt X wr.heap.size [.bool s0, .int .u64 (hiN pn : Int), .int .u64 (loN pn : Int), .int .i64 pl, .int .u8 (ak : Int), .int .i64 ai] 32 := by rw [hX]; exact RowAt.new _ _ _
      go_upto_region 7 with fail
      rw [← hX]
      replace HI : Hid (OwnC w X u6 (0 :: partsD (l.take k) six)) := HI.out.below hbX
      clear hX hbX a0 a1 a2 a3 a4 a5 hg1
      generalize wr.heap.size = gs at r0 ⊢
      by_cases hs : s0 = six
      · subst hs
        have HP2 : Hid (PC = [pn] ++ (if nz = 0 then [na] else [])) := by rw [HP.out, if_pos rfl]; exact rfl
        clear HP
        obtain ⟨v', w4, hrun, hO, hkp⟩ := (HI.out.below (below_new (Below.refl _ X) (.cells #[.int .u64 (hiN pn : Int), .int .u64 (loN pn : Int)] 25))).app3 (lit_one X pn) (by simp only [List.length_cons, List.length_nil]; omega)
        have r4 := hkp gs _ _ (r0.below (below_new (Below.refl _ X) _)) (by decide)
        obtain ⟨y0, y1, y2, y3, y4, y5, yf⟩ := six_of r0
        clear HI hkp
        go_upto_region 9 with fail
        clear y0 y1 y2 y3 y4 y5 yf r0
        obtain ⟨y0, y1, y2, y3, y4, y5, yf⟩ := six_of r4
        have HO : Hid (OwnC w w4 v' (0 :: partsD (l.take k) s0 ++ [pn])) := hO
        clear hO hrun
        go_wp2_with fail
        go_at_call 49; refine (c1 _).mono ?_; rintro e w2 ⟨rfl, hb2⟩
        replace HO : Hid (OwnC w w2 v' (0 :: partsD (l.take k) s0 ++ [pn])) := HO.out.below hb2
        clear y0 y1 y2 y3 y4 y5 yf hb2 c1 r4
        obtain ⟨X2, hX⟩ : ∃ X2, X2 = w2.alloc (.cells #[.int .u64 (hiN la : Int), .int .u64 (loN la : Int)] 25) := ⟨_, rfl⟩
        have hbX : Below w2.heap.size w2 X2 := by rw [hX]; exact below_new (Below.refl _ _) _
        have r1 : RowAt X2 w2.heap.size [.int .u64 (hiN la : Int), .int .u64 (loN la : Int)] 25 := by rw [hX]; exact RowAt.new _ _ _
        replace HO : Hid (OwnC w X2 v' (0 :: partsD (l.take k) s0 ++ [pn])) := HO.out.below hbX
        go_upto_region 10 with fail
        rw [← hX]
        clear hX hbX
        generalize w2.heap.size = gl at r1 ⊢
        obtain ⟨z0, z1, zf⟩ := cells2 r1
        go_wp2_with fail
        go_at_call 50; refine (c2 _).mono ?_; rintro e w3 ⟨rfl, hb2⟩
        replace HO : Hid (OwnC w w3 v' (0 :: partsD (l.take k) s0 ++ [pn])) := HO.out.below hb2
        clear z0 z1 zf hb2 c2 r1
        obtain ⟨X3, hX⟩ : ∃ X3, X3 = w3.alloc (.cells #[.int .u64 (hiN na : Int), .int .u64 (loN na : Int)] 25) := ⟨_, rfl⟩
        have hbX : Below w3.heap.size w3 X3 := by rw [hX]; exact below_new (Below.refl _ _) _
        have r1 : RowAt X3 w3.heap.size [.int .u64 (hiN na : Int), .int .u64 (loN na : Int)] 25 := by rw [hX]; exact RowAt.new _ _ _
        replace HO : Hid (OwnC w X3 v' (0 :: partsD (l.take k) s0 ++ [pn])) := HO.out.below hbX
        go_upto_region 11 with fail
        rw [← hX]
        clear hX hbX
        generalize w3.heap.size = gn at r1 ⊢
        by_cases hnz : nz = 0
        · subst hnz
          obtain ⟨z0, z1, zf⟩ := cells2 r1
          obtain ⟨v2, w5, hrun, hO2⟩ := (HO.out.below (below_new (Below.refl _ X3) (.cells #[.int .u64 (hiN na : Int), .int .u64 (loN na : Int)] 25))).app (lit_one X3 na) (by simp only [List.length_append, List.length_cons, List.length_nil]; omega)
          have HO2 : Hid (OwnC w w5 v2 (0 :: partsD (l.take (k + 1)) s0)) := by
            show OwnC _ _ _ _
            rw [HS.out, HP2.out, if_pos rfl]
            have e9 : 0 :: (partsD (l.take k) s0 ++ ([pn] ++ [na])) = (0 :: partsD (l.take k) s0 ++ [pn]) ++ [na] := by simp
            rw [e9]
            exact hO2
          clear hO2 HO HS HP2
          go_wp2_with fail
          go_roundw
          case rel => exact ⟨k + 1, by omega, by go_num, HO2⟩
          case measure => simp [Go.RowKit.intOf]; omega
        · have HO2 : Hid (OwnC w X3 v' (0 :: partsD (l.take (k + 1)) s0)) := by
            show OwnC _ _ _ _
            rw [HS.out, HP2.out, if_neg hnz, List.append_nil]
            exact HO.out
          have hnz2 : (nz == 0) = false := beq_eq_false_iff_ne.2 hnz
          clear HO HS HP2
          go_wp2_with fail
          go_roundw
          case rel => exact ⟨k + 1, by omega, by go_num, HO2⟩
          case measure => simp [Go.RowKit.intOf]; omega
      · have hs2 : six = !s0 := by cases s0 <;> cases six <;> simp_all
        have HO : Hid (OwnC w X u6 (0 :: partsD (l.take (k + 1)) six)) := by
          show OwnC _ _ _ _
          rw [HS.out, HP.out, if_neg hs, List.append_nil]
          exact HI.out
        clear HP HS HI c1 c2
        subst hs2
        have hne : (s0 != !s0) = true := by cases s0 <;> rfl
        obtain ⟨y0, y1, y2, y3, y4, y5, yf⟩ := six_of r0
        go_wp2_with fail
        go_roundw
        case rel => exact ⟨k + 1, by omega, by go_num, HO⟩
        case measure => simp [Go.RowKit.intOf]; omega
    · have hkn2 : k = n := by omega
      subst hkn2
      have hkd : decide ((k : Int) < (k : Int)) = false := decide_eq_false (by omega)
      have hI := HI.out
      rw [HN.out, List.take_length] at hI
      have hpl := partsD_len l six
      have hnl := HN.out
      have cs := sorted_any (0 :: partsD l six) u6 wr (hasRow_own hI.own) HFE.out (by rw [List.length_cons]; omega)
      have HBL : Hid (Below w.heap.size w wr) := hI.bl
      obtain ⟨R, hR⟩ : ∃ R, R = sortN (0 :: partsD l six) := ⟨_, rfl⟩
      have HRR : Hid (R = sortN (0 :: partsD l six)) := hR
      rw [← hR] at cs
      clear hR HI hI hpl hnl HFE HF cl cx HR
      go_wp2_with fail
      go_at_call 51; refine cs.mono ?_; rintro e w5 ⟨u, rfl, h1, h2⟩
      have HO : Hid (HasAds w5 u R ∧ Below w.heap.size w w5) := ⟨h1, below2 HBL.out h2⟩
      clear cs h1 h2
      go_wp2_with fail
      go_ret2
      exact ⟨_, rfl, by rw [← HRR.out]; exact HO.out.1, HO.out.2⟩
set_option maxHeartbeats 8000000 in
set_option maxRecDepth 20000 in
theorem rcuts_bad (v : Value) (six : Bool) (w : World) (cc : ∀ W, Below w.heap.size w W → Calls Try.prog 17 #[v] W fun e w' => e = .returned (.int .i64 2) ∧ Below W.heap.size W w') :
    Calls Try.prog 22 #[v, .bool six] w fun e w' => ∃ u, e = .returned (.tuple #[u, .int .i64 2]) ∧ HasAds w' u [] ∧ Below w.heap.size w w' := by
  go_enter Try.func22, Try.ntmps22
  go_wp2_with fail
  go_at_call 17; refine (cc _ (Below.refl _ _)).mono ?_; rintro e w1 ⟨rfl, hb1⟩
  go_wp2_with fail
  go_ret2
  exact ⟨_, rfl, Lk.hasRow_nil _ 2, hb1⟩
theorem rcuts_any (l : List Rt) (v : Value) (six : Bool) (w : World) (hl : HasRts w v l) (hfit : ∀ r ∈ l, FitR r) :
    Calls Try.prog 22 #[v, .bool six] w fun e w' => ∃ u, e = .returned (.tuple #[u, .int .i64 (cutsT l six).2]) ∧ HasAds w' u (cutsT l six).1 ∧ Below w.heap.size w w' := by
  obtain ⟨o, c, rfl, hc1, hc2⟩ := Lk.HasRow.slice hl
  have cc := fun W h => Go.Proofs.Ytjgieaijdkmadaa.Tr.rcheck_any l (.slice o l.length c) W h hfit
  cases hok : okT l with
  | false =>
    have e : cutsT l six = ([], 2) := by unfold cutsT; rw [hok]; rfl
    have e2 : checkT l = 2 := by unfold checkT; rw [hok]; rfl
    rw [e2] at cc
    rw [e]
    exact rcuts_bad _ six w (fun W hb => cc W (hl.keep hb))
  | true =>
    have e : cutsT l six = (sortN (0 :: partsC l six), 0) := by unfold cutsT; rw [hok]; rfl
    have e2 : checkT l = 0 := by unfold checkT; rw [hok]; rfl
    rw [e2] at cc
    rw [e, ← partsD_same]
    exact rcuts_walk l o _ c six w rfl (((Tr.okT_iff _).1 hok).1) hl hfit cc
end Go.Proofs.Ytjgieaijdkmadaa.Ct
namespace Go.Proofs.Ytjgieaijdkmadaa.Tr
open Go.RowKit Go.Shelf
open Go.Proofs.Ytjgieaijdkmadaa.Addr (Pf okP rightB hiN loN pfV adV RowAt below2 below_drew below_new bset RowAt.lt RowAt.cell RowAt.frozen RowAt.below RowAt.drew RowAt.new RowAt.alloc RowAt.gkeep cells2 cells4)
set_option maxHeartbeats 8000000 in
set_option maxRecDepth 20000 in
theorem rlong_bad (l : List Rt) (v : Value) (six : Bool) (ah al : Int) (xA : Bool) (xB xC xD xE xF : Int) (w : World) (hl : HasRts w v l) (cc : ∀ W v, HasRts W v l → Calls Try.prog 17 #[v] W fun e w' => e = .returned (.int .i64 2) ∧ Below W.heap.size W w') :
    Calls Try.prog 20 #[v, .bool six, .agg #[.int .u64 ah, .int .u64 al]] w fun e w' => e = .returned (.tuple #[.agg #[.bool false, .int .u64 0, .int .u64 0, .int .i64 0, .int .u8 0, .int .i64 0], .int .i64 2]) ∧ Below w.heap.size w w' := by
  have hB := Below.refl w.heap.size w
  go_enter Try.func20, Try.ntmps20
  obtain ⟨Y1, hY⟩ : ∃ Y, Y = ((w.alloc (.cells #[.int .u64 ah, .int .u64 al] 25)).alloc (.cells #[.bool false, .int .u64 0, .int .u64 0, .int .i64 0, .int .u8 0, .int .i64 0] 32)) := ⟨_, rfl⟩
  have hbY : Below w.heap.size w Y1 := by rw [hY]; exact below_new (below_new (Below.refl _ _) _) _
  have hle : w.heap.size ≤ w.heap.size := hB.size
  obtain ⟨ga, hga⟩ : ∃ g, g = w.heap.size := ⟨_, rfl⟩
  have ra : RowAt Y1 ga [.int .u64 ah, .int .u64 al] 25 := by
    have h := (RowAt.new w [.int .u64 ah, .int .u64 al] 25).alloc (.cells #[.bool false, .int .u64 0, .int .u64 0, .int .i64 0, .int .u8 0, .int .i64 0] 32)
    rw [hga, hY]; exact h
  have lea : w.heap.size ≤ ga := by omega
  obtain ⟨gz, hgz⟩ : ∃ g, g = w.heap.size + 1 := ⟨_, rfl⟩
  have rz : RowAt Y1 gz [.bool false, .int .u64 0, .int .u64 0, .int .i64 0, .int .u8 0, .int .i64 0] 32 := by
    have h := RowAt.new (w.alloc (.cells #[.int .u64 ah, .int .u64 al] 25)) [.bool false, .int .u64 0, .int .u64 0, .int .i64 0, .int .u8 0, .int .i64 0] 32
    simp only [World.size_alloc] at h
    rw [hgz, hY]; exact h
  have lez : w.heap.size ≤ gz := by omega
  have neaz : ga ≠ gz := by omega
  replace hl := hl.keep hbY
  replace hB := below2 hB hbY
  go_upto_region 1 with fail
  rw [← hY, ← hgz, ← hga]
  clear hY hbY hle hga hgz
  go_wp2_with fail
  go_at_call 17; refine (cc _ _ hl).mono ?_; rintro e w2 ⟨rfl, hb⟩
  replace ra := RowAt.below ra hb
  replace rz := RowAt.below rz hb
  replace hl := hl.keep hb
  replace hB := below2 hB hb
  clear hb
  obtain ⟨z0, z1, z2, z3, z4, z5, zf⟩ := six_of rz
  go_wp2_with fail
  (try simp only [Exit.inBlock, Exit.then])
  refine bodyPost_ret (v := .tuple #[.agg #[.bool false, .int .u64 0, .int .u64 0, .int .i64 0, .int .u8 0, .int .i64 0], .int .i64 2]) ?_ rfl ⟨rfl, ?_⟩
  · rw [results_cell_tmp rfl]
    go_simp
  · exact set6_bl hB lez _ _ _ _ _ _
set_option maxHeartbeats 8000000 in
set_option maxRecDepth 20000 in
theorem rlong_off (l : List Rt) (v : Value) (six : Bool) (ah al : Int) (xA : Bool) (xB xC xD xE xF : Int) (w : World) (hl : HasRts w v l) (cc : ∀ W v, HasRts W v l → Calls Try.prog 17 #[v] W fun e w' => e = .returned (.int .i64 0) ∧ Below W.heap.size W w') (cr : ∀ W, Calls Try.prog 43 #[.bool six, .agg #[.int .u64 ah, .int .u64 al]] W fun e w' => e = .returned (.bool false) ∧ Below W.heap.size W w') :
    Calls Try.prog 20 #[v, .bool six, .agg #[.int .u64 ah, .int .u64 al]] w fun e w' => e = .returned (.tuple #[.agg #[.bool false, .int .u64 0, .int .u64 0, .int .i64 0, .int .u8 0, .int .i64 0], .int .i64 2]) ∧ Below w.heap.size w w' := by
  have hB := Below.refl w.heap.size w
  go_enter Try.func20, Try.ntmps20
  obtain ⟨Y1, hY⟩ : ∃ Y, Y = ((w.alloc (.cells #[.int .u64 ah, .int .u64 al] 25)).alloc (.cells #[.bool false, .int .u64 0, .int .u64 0, .int .i64 0, .int .u8 0, .int .i64 0] 32)) := ⟨_, rfl⟩
  have hbY : Below w.heap.size w Y1 := by rw [hY]; exact below_new (below_new (Below.refl _ _) _) _
  have hle : w.heap.size ≤ w.heap.size := hB.size
  obtain ⟨ga, hga⟩ : ∃ g, g = w.heap.size := ⟨_, rfl⟩
  have ra : RowAt Y1 ga [.int .u64 ah, .int .u64 al] 25 := by
    have h := (RowAt.new w [.int .u64 ah, .int .u64 al] 25).alloc (.cells #[.bool false, .int .u64 0, .int .u64 0, .int .i64 0, .int .u8 0, .int .i64 0] 32)
    rw [hga, hY]; exact h
  have lea : w.heap.size ≤ ga := by omega
  obtain ⟨gz, hgz⟩ : ∃ g, g = w.heap.size + 1 := ⟨_, rfl⟩
  have rz : RowAt Y1 gz [.bool false, .int .u64 0, .int .u64 0, .int .i64 0, .int .u8 0, .int .i64 0] 32 := by
    have h := RowAt.new (w.alloc (.cells #[.int .u64 ah, .int .u64 al] 25)) [.bool false, .int .u64 0, .int .u64 0, .int .i64 0, .int .u8 0, .int .i64 0] 32
    simp only [World.size_alloc] at h
    rw [hgz, hY]; exact h
  have lez : w.heap.size ≤ gz := by omega
  have neaz : ga ≠ gz := by omega
  replace hl := hl.keep hbY
  replace hB := below2 hB hbY
  go_upto_region 1 with fail
  rw [← hY, ← hgz, ← hga]
  clear hY hbY hle hga hgz
  go_wp2_with fail
  go_at_call 17; refine (cc _ _ hl).mono ?_; rintro e w2 ⟨rfl, hb⟩
  replace ra := RowAt.below ra hb
  replace rz := RowAt.below rz hb
  replace hl := hl.keep hb
  replace hB := below2 hB hb
  clear hb
  obtain ⟨a0, a1, af⟩ := cells2 ra
  go_wp2_with fail
  clear a0 a1 af
  go_at_call 43; refine (cr _).mono ?_; rintro e w3 ⟨rfl, hb⟩
  replace ra := RowAt.below ra hb
  replace rz := RowAt.below rz hb
  replace hl := hl.keep hb
  replace hB := below2 hB hb
  clear hb
  obtain ⟨z0, z1, z2, z3, z4, z5, zf⟩ := six_of rz
  go_wp2_with fail
  (try simp only [Exit.inBlock, Exit.then])
  refine bodyPost_ret (v := .tuple #[.agg #[.bool false, .int .u64 0, .int .u64 0, .int .i64 0, .int .u8 0, .int .i64 0], .int .i64 2]) ?_ rfl ⟨rfl, ?_⟩
  · rw [results_cell_tmp rfl]
    go_simp
  · exact set6_bl hB lez _ _ _ _ _ _
set_option maxHeartbeats 8000000 in
set_option maxRecDepth 20000 in
theorem rlong_none (l : List Rt) (v : Value) (six : Bool) (ah al : Int) (xA : Bool) (xB xC xD xE xF : Int) (w : World) (hl : HasRts w v l) (cc : ∀ W v, HasRts W v l → Calls Try.prog 17 #[v] W fun e w' => e = .returned (.int .i64 0) ∧ Below W.heap.size W w') (cr : ∀ W, Calls Try.prog 43 #[.bool six, .agg #[.int .u64 ah, .int .u64 al]] W fun e w' => e = .returned (.bool true) ∧ Below W.heap.size W w') (cb : ∀ W v, HasRts W v l → Calls Try.prog 44 #[v, .bool six, .agg #[.int .u64 ah, .int .u64 al]] W fun e w' => e = .returned (.tuple #[.agg #[.bool xA, .int .u64 xB, .int .u64 xC, .int .i64 xD, .int .u8 xE, .int .i64 xF], .bool false]) ∧ Below W.heap.size W w') :
    Calls Try.prog 20 #[v, .bool six, .agg #[.int .u64 ah, .int .u64 al]] w fun e w' => e = .returned (.tuple #[.agg #[.bool false, .int .u64 0, .int .u64 0, .int .i64 0, .int .u8 0, .int .i64 0], .int .i64 3]) ∧ Below w.heap.size w w' := by
  have hB := Below.refl w.heap.size w
  go_enter Try.func20, Try.ntmps20
  obtain ⟨Y1, hY⟩ : ∃ Y, Y = ((w.alloc (.cells #[.int .u64 ah, .int .u64 al] 25)).alloc (.cells #[.bool false, .int .u64 0, .int .u64 0, .int .i64 0, .int .u8 0, .int .i64 0] 32)) := ⟨_, rfl⟩
  have hbY : Below w.heap.size w Y1 := by rw [hY]; exact below_new (below_new (Below.refl _ _) _) _
  have hle : w.heap.size ≤ w.heap.size := hB.size
  obtain ⟨ga, hga⟩ : ∃ g, g = w.heap.size := ⟨_, rfl⟩
  have ra : RowAt Y1 ga [.int .u64 ah, .int .u64 al] 25 := by
    have h := (RowAt.new w [.int .u64 ah, .int .u64 al] 25).alloc (.cells #[.bool false, .int .u64 0, .int .u64 0, .int .i64 0, .int .u8 0, .int .i64 0] 32)
    rw [hga, hY]; exact h
  have lea : w.heap.size ≤ ga := by omega
  obtain ⟨gz, hgz⟩ : ∃ g, g = w.heap.size + 1 := ⟨_, rfl⟩
  have rz : RowAt Y1 gz [.bool false, .int .u64 0, .int .u64 0, .int .i64 0, .int .u8 0, .int .i64 0] 32 := by
    have h := RowAt.new (w.alloc (.cells #[.int .u64 ah, .int .u64 al] 25)) [.bool false, .int .u64 0, .int .u64 0, .int .i64 0, .int .u8 0, .int .i64 0] 32
    simp only [World.size_alloc] at h
    rw [hgz, hY]; exact h
  have lez : w.heap.size ≤ gz := by omega
  have neaz : ga ≠ gz := by omega
  replace hl := hl.keep hbY
  replace hB := below2 hB hbY
  go_upto_region 1 with fail
  rw [← hY, ← hgz, ← hga]
  clear hY hbY hle hga hgz
  go_wp2_with fail
  go_at_call 17; refine (cc _ _ hl).mono ?_; rintro e w2 ⟨rfl, hb⟩
  replace ra := RowAt.below ra hb
  replace rz := RowAt.below rz hb
  replace hl := hl.keep hb
  replace hB := below2 hB hb
  clear hb
  obtain ⟨a0, a1, af⟩ := cells2 ra
  go_wp2_with fail
  clear a0 a1 af
  go_at_call 43; refine (cr _).mono ?_; rintro e w3 ⟨rfl, hb⟩
  replace ra := RowAt.below ra hb
  replace rz := RowAt.below rz hb
  replace hl := hl.keep hb
  replace hB := below2 hB hb
  clear hb
  obtain ⟨a0, a1, af⟩ := cells2 ra
  go_wp2_with fail
  clear a0 a1 af
  go_at_call 44; refine (cb _ _ hl).mono ?_; rintro e w4 ⟨rfl, hb⟩
  replace ra := RowAt.below ra hb
  replace rz := RowAt.below rz hb
  replace hl := hl.keep hb
  replace hB := below2 hB hb
  clear hb
  obtain ⟨Y5, hY⟩ : ∃ Y, Y = (w4.alloc (.cells #[.bool xA, .int .u64 xB, .int .u64 xC, .int .i64 xD, .int .u8 xE, .int .i64 xF] 32)) := ⟨_, rfl⟩
  have hbY : Below w4.heap.size w4 Y5 := by rw [hY]; exact below_new (Below.refl _ _) _
  have hle : w.heap.size ≤ w4.heap.size := hB.size
  obtain ⟨gx, hgx⟩ : ∃ g, g = w4.heap.size := ⟨_, rfl⟩
  have rx : RowAt Y5 gx [.bool xA, .int .u64 xB, .int .u64 xC, .int .i64 xD, .int .u8 xE, .int .i64 xF] 32 := by
    have h := RowAt.new w4 [.bool xA, .int .u64 xB, .int .u64 xC, .int .i64 xD, .int .u8 xE, .int .i64 xF] 32
    rw [hgx, hY]; exact h
  have lex : w.heap.size ≤ gx := by omega
  have neax : ga ≠ gx := by have := RowAt.lt ra; omega
  have nezx : gz ≠ gx := by have := RowAt.lt rz; omega
  replace ra := RowAt.below ra hbY
  replace rz := RowAt.below rz hbY
  replace hl := hl.keep hbY
  replace hB := below2 hB hbY
  go_upto_region 4 with fail
  rw [← hY, ← hgx]
  clear hY hbY hle hgx
  obtain ⟨z0, z1, z2, z3, z4, z5, zf⟩ := six_of rz
  go_wp2_with fail
  (try simp only [Exit.inBlock, Exit.then])
  refine bodyPost_ret (v := .tuple #[.agg #[.bool false, .int .u64 0, .int .u64 0, .int .i64 0, .int .u8 0, .int .i64 0], .int .i64 3]) ?_ rfl ⟨rfl, ?_⟩
  · rw [results_cell_tmp rfl]
    go_simp
  · exact set6_bl hB lez _ _ _ _ _ _
set_option maxHeartbeats 8000000 in
set_option maxRecDepth 20000 in
theorem rlong_some (l : List Rt) (v : Value) (six : Bool) (ah al : Int) (xA : Bool) (xB xC xD xE xF : Int) (w : World) (hl : HasRts w v l) (cc : ∀ W v, HasRts W v l → Calls Try.prog 17 #[v] W fun e w' => e = .returned (.int .i64 0) ∧ Below W.heap.size W w') (cr : ∀ W, Calls Try.prog 43 #[.bool six, .agg #[.int .u64 ah, .int .u64 al]] W fun e w' => e = .returned (.bool true) ∧ Below W.heap.size W w') (cb : ∀ W v, HasRts W v l → Calls Try.prog 44 #[v, .bool six, .agg #[.int .u64 ah, .int .u64 al]] W fun e w' => e = .returned (.tuple #[.agg #[.bool xA, .int .u64 xB, .int .u64 xC, .int .i64 xD, .int .u8 xE, .int .i64 xF], .bool true]) ∧ Below W.heap.size W w') :
    Calls Try.prog 20 #[v, .bool six, .agg #[.int .u64 ah, .int .u64 al]] w fun e w' => e = .returned (.tuple #[.agg #[.bool xA, .int .u64 xB, .int .u64 xC, .int .i64 xD, .int .u8 xE, .int .i64 xF], .int .i64 0]) ∧ Below w.heap.size w w' := by
  have hB := Below.refl w.heap.size w
  go_enter Try.func20, Try.ntmps20
  obtain ⟨Y1, hY⟩ : ∃ Y, Y = ((w.alloc (.cells #[.int .u64 ah, .int .u64 al] 25)).alloc (.cells #[.bool false, .int .u64 0, .int .u64 0, .int .i64 0, .int .u8 0, .int .i64 0] 32)) := ⟨_, rfl⟩
  have hbY : Below w.heap.size w Y1 := by rw [hY]; exact below_new (below_new (Below.refl _ _) _) _
  have hle : w.heap.size ≤ w.heap.size := hB.size
  obtain ⟨ga, hga⟩ : ∃ g, g = w.heap.size := ⟨_, rfl⟩
  have ra : RowAt Y1 ga [.int .u64 ah, .int .u64 al] 25 := by
    have h := (RowAt.new w [.int .u64 ah, .int .u64 al] 25).alloc (.cells #[.bool false, .int .u64 0, .int .u64 0, .int .i64 0, .int .u8 0, .int .i64 0] 32)
    rw [hga, hY]; exact h
  have lea : w.heap.size ≤ ga := by omega
  obtain ⟨gz, hgz⟩ : ∃ g, g = w.heap.size + 1 := ⟨_, rfl⟩
  have rz : RowAt Y1 gz [.bool false, .int .u64 0, .int .u64 0, .int .i64 0, .int .u8 0, .int .i64 0] 32 := by
    have h := RowAt.new (w.alloc (.cells #[.int .u64 ah, .int .u64 al] 25)) [.bool false, .int .u64 0, .int .u64 0, .int .i64 0, .int .u8 0, .int .i64 0] 32
    simp only [World.size_alloc] at h
    rw [hgz, hY]; exact h
  have lez : w.heap.size ≤ gz := by omega
  have neaz : ga ≠ gz := by omega
  replace hl := hl.keep hbY
  replace hB := below2 hB hbY
  go_upto_region 1 with fail
  rw [← hY, ← hgz, ← hga]
  clear hY hbY hle hga hgz
  go_wp2_with fail
  go_at_call 17; refine (cc _ _ hl).mono ?_; rintro e w2 ⟨rfl, hb⟩
  replace ra := RowAt.below ra hb
  replace rz := RowAt.below rz hb
  replace hl := hl.keep hb
  replace hB := below2 hB hb
  clear hb
  obtain ⟨a0, a1, af⟩ := cells2 ra
  go_wp2_with fail
  clear a0 a1 af
  go_at_call 43; refine (cr _).mono ?_; rintro e w3 ⟨rfl, hb⟩
  replace ra := RowAt.below ra hb
  replace rz := RowAt.below rz hb
  replace hl := hl.keep hb
  replace hB := below2 hB hb
  clear hb
  obtain ⟨a0, a1, af⟩ := cells2 ra
  go_wp2_with fail
  clear a0 a1 af
  go_at_call 44; refine (cb _ _ hl).mono ?_; rintro e w4 ⟨rfl, hb⟩
  replace ra := RowAt.below ra hb
  replace rz := RowAt.below rz hb
  replace hl := hl.keep hb
  replace hB := below2 hB hb
  clear hb
  obtain ⟨Y5, hY⟩ : ∃ Y, Y = (w4.alloc (.cells #[.bool xA, .int .u64 xB, .int .u64 xC, .int .i64 xD, .int .u8 xE, .int .i64 xF] 32)) := ⟨_, rfl⟩
  have hbY : Below w4.heap.size w4 Y5 := by rw [hY]; exact below_new (Below.refl _ _) _
  have hle : w.heap.size ≤ w4.heap.size := hB.size
  obtain ⟨gx, hgx⟩ : ∃ g, g = w4.heap.size := ⟨_, rfl⟩
  have rx : RowAt Y5 gx [.bool xA, .int .u64 xB, .int .u64 xC, .int .i64 xD, .int .u8 xE, .int .i64 xF] 32 := by
    have h := RowAt.new w4 [.bool xA, .int .u64 xB, .int .u64 xC, .int .i64 xD, .int .u8 xE, .int .i64 xF] 32
    rw [hgx, hY]; exact h
  have lex : w.heap.size ≤ gx := by omega
  have neax : ga ≠ gx := by have := RowAt.lt ra; omega
  have nezx : gz ≠ gx := by have := RowAt.lt rz; omega
  replace ra := RowAt.below ra hbY
  replace rz := RowAt.below rz hbY
  replace hl := hl.keep hbY
  replace hB := below2 hB hbY
  go_upto_region 4 with fail
  rw [← hY, ← hgx]
  clear hY hbY hle hgx
  have x0 := RowAt.cell rx 0
  have x1 := RowAt.cell rx 1
  have x2 := RowAt.cell rx 2
  have x3 := RowAt.cell rx 3
  have x4 := RowAt.cell rx 4
  have x5 := RowAt.cell rx 5
  have xf := RowAt.frozen rx
  simp only [List.getElem?_cons_succ, List.getElem?_cons_zero] at x0 x1 x2 x3 x4 x5
  obtain ⟨z0, z1, z2, z3, z4, z5, zf⟩ := six_of rz
  go_wp2_with fail
  (try simp only [Exit.inBlock, Exit.then])
  refine bodyPost_ret (v := .tuple #[.agg #[.bool xA, .int .u64 xB, .int .u64 xC, .int .i64 xD, .int .u8 xE, .int .i64 xF], .int .i64 0]) ?_ rfl ⟨rfl, ?_⟩
  · rw [results_cell_tmp rfl]
    go_simp
  · exact set6_bl hB lez _ _ _ _ _ _
theorem rlongest_any (l : List Rt) (v : Value) (six : Bool) (a : Nat) (w : World) (hl : HasRts w v l) (hf : ∀ x ∈ l, FitR x) (ha : a < 2 ^ 128) :
    Calls Try.prog 20 #[v, .bool six, .agg #[.int .u64 (hiN a : Int), .int .u64 (loN a : Int)]] w fun e w' => e = .returned (.tuple #[rtA (longT l six a).1, .int .i64 (longT l six a).2]) ∧ Below w.heap.size w w' := by
  have cc := fun W v h => rcheck_any l v W h hf
  have cr := fun W => Go.Proofs.Ytjgieaijdkmadaa.Addr.rright_any six a W ha
  have HZ : rtA zeroR = .agg #[.bool false, .int .u64 0, .int .u64 0, .int .i64 0, .int .u8 0, .int .i64 0] := by unfold rtA zeroR; simp only [Msg.hi0, Msg.lo0]; rfl
  cases hk : okT l with
  | false =>
    have e1 : checkT l = 2 := by unfold checkT; rw [hk]; rfl
    have e2 : longT l six a = (zeroR, 2) := by unfold longT; rw [hk]; rfl
    rw [e1] at cc
    rw [e2, HZ]
    exact rlong_bad l v six _ _ false 0 0 0 0 0 w hl cc
  | true =>
    have e1 : checkT l = 0 := by unfold checkT; rw [hk]; rfl
    rw [e1] at cc
    cases hr : rightB six a with
    | false =>
      have e2 : longT l six a = (zeroR, 2) := by unfold longT; rw [hk, hr]; rfl
      rw [hr] at cr
      rw [e2, HZ]
      exact rlong_off l v six _ _ false 0 0 0 0 0 w hl cc cr
    | true =>
      rw [hr] at cr
      have cb := fun W v h => best_any l v six a W h hf ha
      rw [best_long hk hr] at cb
      by_cases h0 : (longT l six a).2 = 0
      · rw [decide_eq_true h0] at cb
        rw [h0]
        exact rlong_some l v six _ _ (longT l six a).1.pf.six (hiN (longT l six a).1.pf.n : Int) (loN (longT l six a).1.pf.n : Int) (longT l six a).1.pf.len ((longT l six a).1.act.k : Int) (longT l six a).1.act.i w hl cc cr cb
      · rw [decide_eq_false h0] at cb
        have e3 : longT l six a = (zeroR, 3) := by
          unfold longT lastR codeR at h0 ⊢
          rw [hk, hr] at h0 ⊢
          simp only [Bool.and_self, if_true] at h0 ⊢
          by_cases hx : (l.filter (hasR six a)).length = 0
          · rw [if_pos hx, List.eq_nil_of_length_eq_zero hx]; rfl
          · rw [if_neg hx] at h0; exact absurd rfl h0
        rw [e3] at cb ⊢
        rw [HZ]
        exact rlong_none l v six _ _ zeroR.pf.six (hiN zeroR.pf.n : Int) (loN zeroR.pf.n : Int) zeroR.pf.len (zeroR.act.k : Int) zeroR.act.i w hl cc cr cb
end Go.Proofs.Ytjgieaijdkmadaa.Tr
namespace Go.Proofs.Ytjgieaijdkmadaa
namespace trieAsks
open Go.ChangeShapes Go.WideShapes Go.ChangeAt Go.RowKit
open Go.ChangeMaps (open_string shut_string)
open Go.Proofs.Ytjgieaijdkmadaa.Tr
open Go.Proofs.Ytjgieaijdkmadaa.Tl (BoolIs lives_any)
open Go.Proofs.Ytjgieaijdkmadaa.Ct (HasAds HasAds.keep cutsT HasAds.cell)
open Go.Proofs.Ytjgieaijdkmadaa.Msg (eqP eqP_iff eqP_not pf_neq pf_eqb Ac FitA)
open Go.Proofs.Ytjgieaijdkmadaa.Addr (Pf pfV adV hasB coversB hiN loN rightB cmpN RowAt below2 below_drew below_new bset RowAt.lt RowAt.cell RowAt.frozen RowAt.below RowAt.drew RowAt.new RowAt.alloc RowAt.gkeep cells2 cells4)
theorem own : ownKnob Try.prog.godebug = none := by kernel_rfl
theorem laidOut : laidOutB Try.prog = true := by kernel_rfl
set_option maxHeartbeats 16000000 in
set_option maxRecDepth 20000 in
theorem walks (six : Bool) (ah al : Int) (xA : Bool) (xB xC xD xE xF : Int) (z1 z2 : Int) (l : List Rt) (C : List Nat) (o : Option Addr) (n c : Nat) (w : World) (h0 : HasRts w (.slice o n c) l)
    (c1 : ∀ W v, HasRts W v l → Calls Try.prog 19 #[v, .bool six, .agg #[.int .u64 ah, .int .u64 al]] W fun e w' => e = .returned (.tuple #[.agg #[.bool xA, .int .u64 xB, .int .u64 xC, .int .i64 xD, .int .u8 xE, .int .i64 xF], .int .i64 z1]) ∧ Below W.heap.size W w') (c2 : ∀ W v, HasRts W v l → Calls Try.prog 20 #[v, .bool six, .agg #[.int .u64 ah, .int .u64 al]] W fun e w' => e = .returned (.tuple #[.agg #[.bool xA, .int .u64 xB, .int .u64 xC, .int .i64 xD, .int .u8 xE, .int .i64 xF], .int .i64 z1]) ∧ Below W.heap.size W w') (c3 : ∀ W v, HasRts W v l → Calls Try.prog 21 #[v, .bool six] W fun e w' => ∃ u, e = .returned (.tuple #[u, .int .i64 z2]) ∧ HasAds w' u C ∧ Below W.heap.size W w') (c4 : ∀ W v, HasRts W v l → Calls Try.prog 22 #[v, .bool six] W fun e w' => ∃ u, e = .returned (.tuple #[u, .int .i64 z2]) ∧ HasAds w' u C ∧ Below W.heap.size W w')
    (heq : ∀ W, (binOp .eql 32 (.agg #[.bool xA, .int .u64 xB, .int .u64 xC, .int .i64 xD, .int .u8 xE, .int .i64 xF]) (.agg #[.bool xA, .int .u64 xB, .int .u64 xC, .int .i64 xD, .int .u8 xE, .int .i64 xF])).run Try.prog W = .ok (.bool true) W) :
    Calls Try.prog 4 #[.slice o n c, .bool six, .agg #[.int .u64 ah, .int .u64 al]] w (BoolIs true w) := by
  have hB := Below.refl w.heap.size w
  go_enter Try.func4, Try.ntmps4
  obtain ⟨Y1, hY⟩ : ∃ Y, Y = (w.alloc (.cells #[.int .u64 ah, .int .u64 al] 25)) := ⟨_, rfl⟩
  have hbY : Below w.heap.size w Y1 := by rw [hY]; exact below_new (Below.refl _ _) _
  have hle : w.heap.size ≤ w.heap.size := hB.size
  obtain ⟨ga, hga⟩ : ∃ g, g = w.heap.size := ⟨_, rfl⟩
  have ra : RowAt Y1 ga [.int .u64 ah, .int .u64 al] 25 := by
    have h := RowAt.new w [.int .u64 ah, .int .u64 al] 25
    rw [hga, hY]; exact h
  have lea : w.heap.size ≤ ga := by omega
  replace h0 := h0.keep hbY
  replace hB := below2 hB hbY
  go_upto_region 1 with fail
  rw [← hY, ← hga]
  clear hY hbY hle hga
  obtain ⟨a0, a1, af⟩ := cells2 ra
  go_wp2_with fail
  clear a0 a1 af
  go_at_call 19; refine (c1 _ _ h0).mono ?_; rintro e w2 ⟨rfl, hb⟩
  replace ra := RowAt.below ra hb
  replace h0 := h0.keep hb
  replace hB := below2 hB hb
  clear hb
  obtain ⟨Y3, hY⟩ : ∃ Y, Y = (w2.alloc (.cells #[.bool xA, .int .u64 xB, .int .u64 xC, .int .i64 xD, .int .u8 xE, .int .i64 xF] 32)) := ⟨_, rfl⟩
  have hbY : Below w2.heap.size w2 Y3 := by rw [hY]; exact below_new (Below.refl _ _) _
  have hle : w.heap.size ≤ w2.heap.size := hB.size
  obtain ⟨gx, hgx⟩ : ∃ g, g = w2.heap.size := ⟨_, rfl⟩
  have rx : RowAt Y3 gx [.bool xA, .int .u64 xB, .int .u64 xC, .int .i64 xD, .int .u8 xE, .int .i64 xF] 32 := by
    have h := RowAt.new w2 [.bool xA, .int .u64 xB, .int .u64 xC, .int .i64 xD, .int .u8 xE, .int .i64 xF] 32
    rw [hgx, hY]; exact h
  have lex : w.heap.size ≤ gx := by omega
  have neax : ga ≠ gx := by have := RowAt.lt ra; omega
  replace ra := RowAt.below ra hbY
  replace h0 := h0.keep hbY
  replace hB := below2 hB hbY
  go_upto_region 2 with fail
  rw [← hY, ← hgx]
  clear hY hbY hle hgx
  obtain ⟨a0, a1, af⟩ := cells2 ra
  go_wp2_with fail
  clear a0 a1 af
  go_at_call 20; refine (c2 _ _ h0).mono ?_; rintro e w4 ⟨rfl, hb⟩
  replace ra := RowAt.below ra hb
  replace rx := RowAt.below rx hb
  replace h0 := h0.keep hb
  replace hB := below2 hB hb
  clear hb
  obtain ⟨Y5, hY⟩ : ∃ Y, Y = (w4.alloc (.cells #[.bool xA, .int .u64 xB, .int .u64 xC, .int .i64 xD, .int .u8 xE, .int .i64 xF] 32)) := ⟨_, rfl⟩
  have hbY : Below w4.heap.size w4 Y5 := by rw [hY]; exact below_new (Below.refl _ _) _
  have hle : w.heap.size ≤ w4.heap.size := hB.size
  obtain ⟨gy, hgy⟩ : ∃ g, g = w4.heap.size := ⟨_, rfl⟩
  have ry : RowAt Y5 gy [.bool xA, .int .u64 xB, .int .u64 xC, .int .i64 xD, .int .u8 xE, .int .i64 xF] 32 := by
    have h := RowAt.new w4 [.bool xA, .int .u64 xB, .int .u64 xC, .int .i64 xD, .int .u8 xE, .int .i64 xF] 32
    rw [hgy, hY]; exact h
  have ley : w.heap.size ≤ gy := by omega
  have neay : ga ≠ gy := by have := RowAt.lt ra; omega
  have nexy : gx ≠ gy := by have := RowAt.lt rx; omega
  replace ra := RowAt.below ra hbY
  replace rx := RowAt.below rx hbY
  replace h0 := h0.keep hbY
  replace hB := below2 hB hbY
  go_upto_region 3 with fail
  rw [← hY, ← hgy]
  clear hY hbY hle hgy
  clear ra
  go_wp2_with fail
  go_at_call 21; refine (c3 _ _ h0).mono ?_; rintro e w6 ⟨u3, rfl, h3, hb⟩
  replace rx := RowAt.below rx hb
  replace ry := RowAt.below ry hb
  replace h0 := h0.keep hb
  replace hB := below2 hB hb
  clear hb
  go_wp2_with fail
  go_at_call 22; refine (c4 _ _ h0).mono ?_; rintro e w7 ⟨u4, rfl, h4, hb⟩
  replace rx := RowAt.below rx hb
  replace ry := RowAt.below ry hb
  replace h0 := h0.keep hb
  replace h3 := h3.keep hb
  replace hB := below2 hB hb
  clear hb
  go_wp2_with fail
  go_at_call 15; refine (lives_any _).mono ?_; rintro e w8 ⟨rfl, hb⟩
  replace rx := RowAt.below rx hb
  replace ry := RowAt.below ry hb
  replace h0 := h0.keep hb
  replace h3 := h3.keep hb
  replace h4 := h4.keep hb
  replace hB := below2 hB hb
  clear hb
  have x0 := RowAt.cell rx 0
  have x1 := RowAt.cell rx 1
  have x2 := RowAt.cell rx 2
  have x3 := RowAt.cell rx 3
  have x4 := RowAt.cell rx 4
  have x5 := RowAt.cell rx 5
  have xf := RowAt.frozen rx
  simp only [List.getElem?_cons_succ, List.getElem?_cons_zero] at x0 x1 x2 x3 x4 x5
  have y0 := RowAt.cell ry 0
  have y1 := RowAt.cell ry 1
  have y2 := RowAt.cell ry 2
  have y3 := RowAt.cell ry 3
  have y4 := RowAt.cell ry 4
  have y5 := RowAt.cell ry 5
  have yf := RowAt.frozen ry
  simp only [List.getElem?_cons_succ, List.getElem?_cons_zero] at y0 y1 y2 y3 y4 y5
  go_wp2_with fail
  clear x0 x1 x2 x3 x4 x5 xf y0 y1 y2 y3 y4 y5 yf
  go_at_call 23; refine (Ct.alike_any C _ _ _ h3 h4).mono ?_; rintro e w9 ⟨rfl, hb⟩
  replace rx := RowAt.below rx hb
  replace ry := RowAt.below ry hb
  replace h0 := h0.keep hb
  replace h3 := h3.keep hb
  replace h4 := h4.keep hb
  replace hB := below2 hB hb
  clear hb
  go_wp2_with fail
  go_ret
  exact ⟨rfl, hB⟩
theorem walk (v : Value) (l : List Rt) (six : Bool) (a : Nat) (w : World) (h0 : HasRts w v l) (hf : ∀ x ∈ l, FitR x) (ha : a < 2 ^ 128) :
    Calls Try.prog 4 #[v, .bool six, adV a] w fun e w' => e = .returned (.bool true) ∧ Below w.heap.size w w' := by
  obtain ⟨o, t, rfl, _⟩ := Lk.HasRow.slice h0
  exact walks six (hiN a : Int) (loN a : Int) (longT l six a).1.pf.six (hiN (longT l six a).1.pf.n : Int) (loN (longT l six a).1.pf.n : Int) (longT l six a).1.pf.len ((longT l six a).1.act.k : Int) (longT l six a).1.act.i (longT l six a).2 (cutsT l six).2 l (cutsT l six).1 o _ t w h0
    (fun W v h => longest_any l v six a W h hf ha) (fun W v h => rlongest_any l v six a W h hf ha)
    (fun W v h => (Ct.cuts_any l v six W h hf).mono (fun e w' ⟨o1, n1, m1, e1, e2, e3⟩ => ⟨_, e1, e2, e3⟩)) (fun W v h => Ct.rcuts_any l v six W h hf)
    (fun W => by rw [rt_eql, (eqR_iff _ _).2 rfl])

set_option maxRecDepth 100000 in
theorem lifted (os : Os) (started : os.Started) (H : Type) (enc : TypeId × Value → H) :
    ReturnsInHanded {} Try.checked os 4 .any (Rows.trieAsksSpec.pre6 enc Try.prog Try.f4 Rows.trieAsksRow.domain false) (Rows.trieAsksSpec.post enc Try.prog Try.f4 false true false false) := by
  refine returnsInHanded_of_change_sized (C := Try.checked) own started (by kernel_rfl) Try.func4
    (ChangeSpec.witness6 (enc := enc) (C := Try.checked) false ⟨#[], #[.slice none 0 0, .bool false, .agg #[.int .u64 0, .int .u64 0]], []⟩ 8 (by kernel_rfl) (by kernel_rfl) (by kernel_rfl) (by kernel_rfl)) ?_
  intro W base args ds gs before hval0 hW _ hsz0 _
  have hsz : (DataW.weightsEach Try.prog (Try.f4.params.toList ++ Rows.trieAsksSpec.plain.varTypes Try.prog) (ds ++ gs)).all (· ≤ reachBytes) = true := hsz0
  clear hsz0
  have hval : ∀ (j : Nat) t v, Try.f4.params[j]? = some t → args[j]? = some v → Value.okWide Try.prog W .any base t v := hval0
  have hW' := hW
  obtain ⟨p, q, hA0, hV, rfl, hfz, hnd⟩ := hW
  have hA : DataW.TrodAll enc Try.prog W 0 (fun _ => true) true Try.f4.params.toList args.toList ds p := hA0
  rw [Try.params4] at hA hval hsz
  obtain ⟨v0, vs0, d0, ds0, p0, q0, hargs, rfl, rfl, h0, r0⟩ := trodAll_cons hA
  obtain ⟨v1, vs1, d1, ds1, p1, q1, rfl, rfl, rfl, h1, r1⟩ := trodAll_cons r0
  obtain ⟨v2, vs2, d2, ds2, p2, q2, rfl, rfl, rfl, h2, r2⟩ := trodAll_cons r1
  obtain ⟨rfl, rfl, rfl⟩ := trodAll_nil r2
  obtain rfl : args = #[v0, v1, v2] := by cases args; simp_all
  obtain ⟨rfl, rfl⟩ := trodVars_none hV
  obtain ⟨a0, len0, cap0, rfl⟩ := okWide_slice Try.underlying22 (hval 0 22 v0 rfl rfl)
  have k0 := h0
  have lt0 : ∀ x ∈ p0, x.block < W.heap.size := by obtain ⟨m, hm⟩ := k0; exact DataW.trod_lt m _ _ _ hm
  obtain ⟨fuel0, hf0⟩ := h0
  obtain ⟨z0, b0, f0⟩ := Tr.open_routes hf0
  obtain ⟨a1, rfl, rfl, rfl⟩ := open_bool Try.underlying4 (hval 1 4 v1 rfl rfl) h1
  have k2 := h2
  have lt2 : ∀ x ∈ p2, x.block < W.heap.size := by obtain ⟨m, hm⟩ := k2; exact DataW.trod_lt m _ _ _ hm
  obtain ⟨n2, rfl, b2⟩ := Addr.open_addr (hval 2 25 v2 rfl rfl) h2
  clear hA0 hval0
  refine (walk (.slice a0 len0 cap0) z0 a1 n2 W b0 f0 b2).mono fun e W' ⟨he, bel⟩ => ?_
  subst he
  exact ⟨_, rfl, _, _, _, [], _, [], hW', trodAll_mk1 (shut_bool Try.underlying4 _), (trodAll_cons_mk (Below.trod laidOut (by kernel_rfl) (of_decide_eq_true (by kernel_rfl)) k0 bel lt0) (trodAll_cons_mk (shut_bool Try.underlying4 a1) (trodAll_cons_mk (Below.trod laidOut (by kernel_rfl) (of_decide_eq_true (by kernel_rfl)) k2 bel lt2) trodAll_mk0))), rfl, bel.frame _, fun h => by cases h⟩

theorem over : Rows.trieAsksRow.holds Try.pinned (OpenSpec.ofChange Rows.trieAsksSpec) :=
  OpenClaim.holds_of_wide 4 Try.f4 rfl rfl rfl rfl rfl rfl rfl ⟨rfl, rfl, rfl, rfl, rfl⟩ rfl rfl rfl rfl rfl (by kernel_rfl) Try.func4 (by kernel_rfl)
    (of_decide_eq_true (by kernel_rfl)) (by unfold Func.isWrapper; first | (rw [if_pos (by decide +kernel)]; kernel_rfl) | (rw [if_neg (by decide +kernel)]; exact ⟨rfl, rfl⟩))
    (fun os started H enc _ => lifted os started H enc)
end trieAsks
theorem tasks_holds : Rows.TrieAsksSaid := trieAsks.over
#print axioms tasks_holds
end Go.Proofs.Ytjgieaijdkmadaa
