/- trie.under: what a round of its loop makes, plain. -/
import Derived.Test.YtaaedgfacnaggaaTs08
import Derived.Test.YtaaedgfacnaggaaTs04
import Derived.Laws.AppendOwn
import Derived.OwnWalk
import Derived.Shelf.Slices.Clone
import Derived.RangeFuncBox
import Derived.Laws.Cover3
import Derived.Deep.DeepCutAuto
import Derived.Lib.AppendZeros
import Derived.Test.YtaaedgfacnaggaaTs06
import Derived.Deep.RegionHeld3
set_option linter.unusedVariables false
namespace Go.Proofs.Ytaaedgfacnaggaa.Tr
open Go.RowKit
open Go.Proofs.Ytaaedgfacnaggaa.Addr (Pf okP coversB kP hiN loN)
open Go.Proofs.Ytaaedgfacnaggaa.Lk (HasRow)
def pfC (p : Pf) : List Value := [.bool p.six, .int .u64 (hiN p.n : Int), .int .u64 (loN p.n : Int), .int .i64 p.len]
def nodeC (r : Rt) (u : Value) : List Value := pfC r.pf ++ (rtC r ++ [u])
def nodeCs : List Seg → List Value → List Value
  | s :: ss, u :: us => nodeC s.1 u ++ nodeCs ss us
  | _, _ => []
theorem nodeC_len (r : Rt) (u : Value) : (nodeC r u).length = 11 := rfl
theorem nodeCs_app : ∀ (s : List Seg) (us : List Value) (x : Seg) (u : Value), us.length = s.length → nodeCs (s ++ [x]) (us ++ [u]) = nodeCs s us ++ nodeC x.1 u
  | [], [], x, u, _ => by show nodeC x.1 u ++ [] = _; rw [List.append_nil]; rfl
  | s :: ss, v :: us, x, u, h => by
    show nodeC s.1 v ++ nodeCs (ss ++ [x]) (us ++ [u]) = (nodeC s.1 v ++ nodeCs ss us) ++ _
    rw [nodeCs_app ss us x u (by simpa using h), List.append_assoc]
  | [], u :: us, _, _, h => by simp at h
  | s :: ss, [], _, _, h => by simp at h
theorem nodeCs_at : ∀ (s : List Seg) (us : List Value), us.length = s.length → ∀ j (h : j < s.length) (h2 : j < us.length) t, t < 11 → (nodeCs s us)[11 * j + t]? = (nodeC s[j].1 us[j])[t]?
  | [], _, _, j, h, _, _, _ => by simp at h
  | s :: ss, [], h, _, _, _, _, _ => by simp at h
  | s :: ss, u :: us, hl, j, h, h2, t, ht => by
    show (nodeC s.1 u ++ nodeCs ss us)[11 * j + t]? = _
    cases j with
    | zero => rw [List.getElem?_append_left (by rw [nodeC_len]; omega)]; simp
    | succ j =>
      rw [List.getElem?_append_right (by rw [nodeC_len]; omega), nodeC_len, show 11 * (j + 1) + t - 11 = 11 * j + t by omega, nodeCs_at ss us (by simpa using hl) j (by simpa using h) (by simpa using h2) t ht]
      rfl
/-- a row, whose block is one of some -/
def InQ (Q : Nat → Prop) (v : Value) : Prop := ∀ a n c, v = .slice (some a) n c → Q a.block
def HasTrie : Nat → World → (Nat → Prop) → Bool → Value → List Rt → Prop
  | 0, _, _, _, v, L => L = [] ∧ v = .slice none 0 0
  | f + 1, W, Q, six, v, L => ∃ (s : List Seg) (us : List Value), us.length = s.length ∧ L = flat s ∧ Good s six ∧ HasRow W v 11 s.length (nodeCs s us) ∧ InQ Q v ∧ ∀ i (h : i < s.length) (h2 : i < us.length), HasTrie f W Q six us[i] s[i].2
theorem row_keepQ {W W' : World} {Q : Nat → Prop} {v : Value} {sz n : Nat} {cs : List Value} (h : HasRow W v sz n cs) (hq : InQ Q v) (hb : ∀ b, Q b → W'.heap[b]? = W.heap[b]?) (hs : W.heap.size ≤ W'.heap.size) : HasRow W' v sz n cs := by
  refine ⟨h.1, ?_⟩
  rcases h.2 with h0 | ⟨a, cap, e, h1, h2, h3, h4⟩
  · exact .inl h0
  · refine .inr ⟨a, cap, e, h1, h2, fun h => ⟨(h3 h).1, Nat.lt_of_lt_of_le (h3 h).2 hs⟩, fun j hj => ?_⟩
    have hbk := hb _ (hq a _ _ e)
    rw [← h4 j hj]
    have : (a.add j).block = a.block := by unfold Addr.add; split <;> rfl
    exact World.cell?_of_block (by rw [this]; exact hbk)
theorem HasTrie.keepQ : ∀ (f : Nat) {W W' : World} {Q : Nat → Prop} {six : Bool} {v : Value} {L : List Rt}, HasTrie f W Q six v L → (∀ b, Q b → W'.heap[b]? = W.heap[b]?) → W.heap.size ≤ W'.heap.size → HasTrie f W' Q six v L
  | 0, _, _, _, _, _, _, h, _, _ => h
  | f + 1, W, W', Q, six, v, L, h, hb, hs => by
    obtain ⟨s, us, h1, h2, h3, h4, h5, h6⟩ := h
    exact ⟨s, us, h1, h2, h3, row_keepQ h4 h5 hb hs, h5, fun i a b => HasTrie.keepQ f (h6 i a b) hb hs⟩
theorem HasTrie.mono : ∀ (f : Nat) {W : World} {Q Q' : Nat → Prop} {six : Bool} {v : Value} {L : List Rt}, HasTrie f W Q six v L → (∀ b, Q b → Q' b) → HasTrie f W Q' six v L
  | 0, _, _, _, _, _, _, h, _ => h
  | f + 1, W, Q, Q', six, v, L, h, hq => by
    obtain ⟨s, us, h1, h2, h3, h4, h5, h6⟩ := h
    exact ⟨s, us, h1, h2, h3, h4, fun a n c e => hq _ (h5 a n c e), fun i a b => HasTrie.mono f (h6 i a b) hq⟩
theorem HasTrie.below {f : Nat} {W W' : World} {Q : Nat → Prop} {six : Bool} {v : Value} {L : List Rt} (h : HasTrie f W Q six v L) (hq : ∀ b, Q b → b < W.heap.size) (hb : Below W.heap.size W W') : HasTrie f W' Q six v L :=
  HasTrie.keepQ f h (fun b hb' => hb.block b (hq b hb')) hb.size
/-- one segment more -/
theorem good_snoc {s : List Seg} {six : Bool} {r : Rt} {S : List Rt} (hg : Good s six) (hr : okP r.pf = true) (h6 : r.pf.six = six) (hS : ∀ x ∈ S, coversB r.pf x.pf = true) (hb : ∀ y ∈ s, y.1.pf.n + 2 ^ kP y.1.pf ≤ r.pf.n) : Good (s ++ [(r, S)]) six := by
  refine ⟨fun x hx => ?_, fun x hx => ?_, fun x hx => ?_, List.pairwise_append.2 ⟨hg.up, by simp, fun x hx y hy => ?_⟩⟩
  · rcases List.mem_append.1 hx with hx | hx
    · exact hg.cov x hx
    · simp at hx; subst hx; exact hS
  · rcases List.mem_append.1 hx with hx | hx
    · exact hg.six x hx
    · simp at hx; subst hx; exact h6
  · rcases List.mem_append.1 hx with hx | hx
    · exact hg.ok x hx
    · simp at hx; subst hx; exact hr
  · simp at hy; subst hy; exact hb x hx
theorem flat_snoc (s : List Seg) (r : Rt) (S : List Rt) : flat (s ++ [(r, S)]) = flat s ++ (r :: S) := by
  unfold flat
  rw [List.flatMap_append]
  simp
/-- what stands behind a route that does not cover the next one begins behind it -/
theorem behind_all {L : List Rt} {r : Rt} {j : Nat} (hu : (r :: L).Pairwise (fun x y => ltP x.pf y.pf)) (hr : okP r.pf = true) (ho : ∀ x ∈ L, okP x.pf = true) (hj : ∀ h : j < L.length, coversB r.pf L[j].pf = false) : ∀ x ∈ L.drop j, x.pf.six = r.pf.six → r.pf.n + 2 ^ kP r.pf ≤ x.pf.n := by
  intro x hx hs
  obtain ⟨i, hi, rfl⟩ := List.getElem_of_mem hx
  rw [List.length_drop] at hi
  rw [List.getElem_drop] at hs ⊢
  have hjl : j < L.length := by omega
  have hp := List.pairwise_cons.1 hu
  have h1 := hp.1 L[j] (List.getElem_mem hjl)
  have key : ∀ (hsj : L[j].pf.six = r.pf.six), r.pf.n + 2 ^ kP r.pf ≤ L[j].pf.n := fun hsj => apart_of hr (ho _ (List.getElem_mem hjl)) h1 (hj hjl) hsj
  by_cases e : i = 0
  · subst e
    exact key hs
  · have h2 := List.pairwise_iff_getElem.1 hp.2 j (j + i) hjl (by omega) (by omega)
    unfold ltP at h1 h2
    have hsj : L[j].pf.six = r.pf.six := by
      rcases h1 with ⟨a, b⟩ | ⟨a, b⟩
      · rcases h2 with ⟨c, d⟩ | ⟨c, d⟩
        · rw [b] at c; cases c
        · rw [← c, b, a] at hs; cases hs
      · exact a.symm
    have h3 := key hsj
    rcases h2 with ⟨c, d⟩ | ⟨c, d⟩
    · rw [hsj] at c; rw [d, c] at hs; cases hs
    · omega
end Go.Proofs.Ytaaedgfacnaggaa.Tr
namespace Go.Proofs.Ytaaedgfacnaggaa.Tr
open Go.RowKit Go.Shelf
open Go.Proofs.Ytaaedgfacnaggaa.Lk (HasRow)
open Go.Proofs.Ytaaedgfacnaggaa.Addr (RowAt.lt RowAt.cell RowAt.drew RowAt.alloc)
attribute [-go_sem] Builtin.append_

theorem info_parts {e sz by' : Nat} {z : Value} (h : (Try.prog.info? e).map (fun i => (i.zero, i.size, i.bytes)) = some (some z, sz, by')) : ∃ i, Try.prog.info? e = some i ∧ i.zero = some z ∧ i.size = sz ∧ i.bytes = by' := by
  cases hq : Try.prog.info? e with
  | none => simp [hq] at h
  | some i => exact ⟨i, rfl, by simpa [hq] using congrArg (fun x => x.map (·.1)) h, by simpa [hq] using congrArg (fun x => x.map (·.2.1)) h, by simpa [hq] using congrArg (fun x => x.map (·.2.2)) h⟩
theorem info_rt : (Try.prog.info? 37).map (fun i => (i.zero, i.size, i.bytes)) = some (some (.agg #[.bool false, .int .u64 0, .int .u64 0, .int .i64 0, .int .u8 0, .int .i64 0]), 6, 48) := by kernel_rfl
theorem append_row {e tS sz bytes : Nat} {z : Value} (hi : (Try.prog.info? e).map (fun i => (i.zero, i.size, i.bytes)) = some (some z, sz, bytes)) (hu : Try.prog.underlying tS = some (.slice e)) (hz : z.cells.size = sz) (hsz : 0 < sz)
    {W : World} {n₀ k m : Nat} {v u : Value} {xs news : List Value} (hown : W.ownsRow n₀ e sz v k xs) (hsrc : HasRow W u sz m news) (h1 : ∀ x ∈ news, x.oneCell' = true) (hb : (k + m) * bytes ≤ 140737488355328) (hkm : k + m ≤ 9223372036854775807) (hn : n₀ ≤ W.heap.size) :
    ∃ v' w3, (∀ ty, (Builtin.append_ #[tS, tS] ty #[v, u]).run Try.prog W = .ok v' w3) ∧ w3.ownsRow n₀ e sz v' (k + m) (xs ++ news) ∧ W.grownBy w3 v.ownBlock := by
  obtain ⟨i0, hi0, hz0, hz1, hz2⟩ := info_parts hi
  rcases hsrc.2 with ⟨rfl, rfl⟩ | ⟨a, cap, rfl, g1, g2, g3, g4⟩
  · obtain rfl : news = [] := List.eq_nil_of_length_eq_zero (by rw [hsrc.1]; simp)
    have := fun ty => run_append_owned_none (P := Try.prog) W n₀ tS ty e i0 sz hu hi0 v k xs hown
    exact ⟨v, W, this, by simpa using hown, World.grownBy.refl _ _⟩
  · have h := run_append_own (P := Try.prog) W n₀ tS 0 e i0 z sz bytes hu hi0 hz0 hz1 hz2 hz hsz v k xs hown a m cap news hsrc.1
      (fun j x hj => by rw [g4 j (by rw [← hsrc.1]; exact (List.getElem?_eq_some_iff.1 hj).1)]; exact hj) h1 (by unfold maxLen; omega) hb hn
    obtain ⟨v', w3, hrun, k1, k2, _⟩ := h
    exact ⟨v', w3, fun ty => hrun, k1, k2⟩
theorem empty_own (w : World) (e sz : Nat) : (w.alloc (.cells #[] e)).ownsRow w.heap.size e sz (.slice (some ⟨w.heap.size, 0, none⟩) 0 0) 0 [] :=
  World.ownsRow_made (base := w.heap.size) (e := e) (size := sz) w #[] 0 (Nat.le_refl _) (by decide) (by simp)
theorem eql_slice_nil {t e : Nat} (h : Try.prog.underlying t = some (.slice e)) (a : Option Addr) (l c : Nat) (w : World) : (binOp .eql t (.slice a l c) (.slice none 0 0)).run Try.prog w = .ok (.bool a.isNone) w := by
  simp only [binOp]
  simp [run_equal_slice_nil w t e a l c h]
set_option maxRecDepth 20000 in
set_option maxHeartbeats 400000 in
theorem clone_any (l : List Rt) (v : Value) (w : World) (h : HasRts w v l) (hz : l.length ≤ 1000000000) :
    Calls Try.prog 31 #[v] w fun e w' => ∃ u, e = .returned u ∧ w'.ownsRow w.heap.size 37 6 u l.length (rtCs l) ∧ Below w.heap.size w w' := by
  have hk := h.keep ((Below.refl _ w).alloc (Nat.le_refl _) (.cells #[] 37))
  have he := eql_slice_nil Try.underlying22
  rcases h.2 with ⟨rfl, h0⟩ | ⟨a, cap, rfl, g1, g2, g3, g4⟩
  · obtain rfl : l = [] := List.eq_nil_of_length_eq_zero h0
    clear h hk h0 hz
    go_enter Try.func31, Try.ntmps31
    go_wp2
    go_ret
    exact ⟨_, rfl, World.ownsRow_nil _ _ _ _, Below.refl _ _⟩
  · obtain ⟨v', w3, hrun, h1, h2⟩ := append_row info_rt Try.underlying22 rfl (by decide) (empty_own w 37 6) hk (one_routes l) (by omega) (by omega) (by simp)
    rw [Nat.zero_add, List.nil_append] at h1
    have hB : Below w.heap.size w w3 := ((Below.refl _ w).alloc (Nat.le_refl _) _).grown h2 (by simp) (fun k e => by simp [Value.ownBlock] at e; omega)
    have H1 : Hid (w3.ownsRow w.heap.size 37 6 v' l.length (rtCs l)) := h1
    have hn9 : l.length ≤ 9223372036854775807 := by omega
    clear h hk h1 h2 g3 g4 hz
    generalize l.length = n at *
    go_enter Try.func31, Try.ntmps31
    go_wp2
    go_ret
    exact ⟨_, rfl, H1.out, hB⟩
theorem zeros_run (n : Nat) (w : World) (h0 : 0 < n) (hn : n ≤ 10000) : ∃ C W', (∀ ty, (Builtin.append_ #[22, 3] ty #[.slice none 0 0, .int .i64 (n : Int)]).run Try.prog w = .ok (.slice (some ⟨w.heap.size, 0, none⟩) n C) W') ∧ n ≤ C ∧ C ≤ 9223372036854775807 ∧
    W'.ownsRow w.heap.size 37 6 (.slice (some ⟨w.heap.size, 0, none⟩) 0 C) 0 [] ∧ Below w.heap.size w W' := by
  obtain ⟨i0, hi, hz0, hz1, hz2⟩ := info_parts info_rt
  have hr := fun ty => Lib.run_append_nil_zeros w 22 3 ty 37 i0 _ .i64 .i64 Try.underlying22 Try.underlying3 hi hz0 n h0 (by rw [hz1]; decide) (by omega) (by rw [hz2]; omega)
  refine ⟨_, _, hr, grownCap_ge _ _ _ _, ?_, ?_, ?_⟩
  · have := grownCap_le_maxLen w n 0 37 (by unfold maxLen; omega)
    unfold maxLen at this
    exact this
  · have := World.ownsRow_made (base := w.heap.size) (e := 37) (size := 6) w.drew (Builtin.zeroCells (Value.cells (.agg #[.bool false, .int .u64 0, .int .u64 0, .int .i64 0, .int .u8 0, .int .i64 0])) n ++ Builtin.zeroCells (Value.cells (.agg #[.bool false, .int .u64 0, .int .u64 0, .int .i64 0, .int .u8 0, .int .i64 0])) (grownCap w n 0 37 - n)) (grownCap w n 0 37) (Nat.le_refl _) (grownCap_le_maxLen w n 0 _ (by unfold maxLen; omega)) (by
      have := grownCap_ge w n 0 37
      rw [Array.size_append, size_zeroCells, size_zeroCells, show (Value.cells (.agg #[.bool false, .int .u64 0, .int .u64 0, .int .i64 0, .int .u8 0, .int .i64 0])).size = 6 from rfl]
      omega)
    exact this
  · exact ((Below.refl _ w).drew).alloc (Nat.le_refl _) _
set_option maxHeartbeats 1000000 in
set_option maxRecDepth 20000 in
theorem grow_any (n : Nat) (w : World) (hn : n ≤ 10000) :
    Calls Try.prog 54 #[.slice none 0 0, .int .i64 (n : Int)] w fun e w' => ∃ u, e = .returned u ∧ w'.ownsRow w.heap.size 37 6 u 0 [] ∧ Below w.heap.size w w' := by
  by_cases h0 : n = 0
  · subst h0
    go_enter Try.func54, Try.ntmps54
    go_wp2
    go_ret
    exact ⟨_, rfl, World.ownsRow_nil _ _ _ _, Below.refl _ _⟩
  · obtain ⟨C, W', hr, hC1, hC2, ho, hB⟩ := zeros_run n w (by omega) hn
    have h1 : (0 : Int) < (n : Int) := by omega
    have h1' : decide ((0 : Int) < (n : Int)) = true := by simp; omega
    have hz : 0 ≤ C := by omega
    have HO : Hid (W'.ownsRow w.heap.size 37 6 (.slice (some ⟨w.heap.size, 0, none⟩) 0 C) 0 []) := ho
    clear ho
    go_enter Try.func54, Try.ntmps54
    go_wp2
    go_ret
    exact ⟨_, rfl, HO.out, hB⟩
theorem hasRow_own {W : World} {B e sz n : Nat} {v : Value} {cs : List Value} (h : W.ownsRow B e sz v n cs) : HasRow W v sz n cs := Lk.hasRow_own h
set_option maxHeartbeats 4000000 in
set_option maxRecDepth 20000 in
theorem concat_any (b : Nat) (la lb lc : List Rt) (oa ob oc : Option Addr) (na nb nc ca cb cc : Nat) (w : World) (hb : b < w.heap.size) (h0 : w.cell? ⟨b, 0, none⟩ = some (.slice oa na ca)) (h1 : w.cell? ⟨b, 1, none⟩ = some (.slice ob nb cb)) (h2 : w.cell? ⟨b, 2, none⟩ = some (.slice oc nc cc))
    (ea : na = la.length) (eb : nb = lb.length) (ec : nc = lc.length)
    (ha : HasRts w (.slice oa na ca) la) (hbb : HasRts w (.slice ob nb cb) lb) (hc : HasRts w (.slice oc nc cc) lc) (hla : na ≤ 1000) (hlb : nb ≤ 1000) (hlc : nc ≤ 1000) :
    Calls Try.prog 30 #[.slice (some ⟨b, 0, none⟩) 3 3] w fun e w' => ∃ v, e = .returned v ∧ w'.ownsRow w.heap.size 37 6 v (la ++ (lb ++ lc)).length (rtCs (la ++ (lb ++ lc))) ∧ Below w.heap.size w w' := by
  have EA : Hid (na = la.length) := ea
  have EB : Hid (nb = lb.length) := eb
  have EC : Hid (nc = lc.length) := ec
  have cg := fun w => grow_any (na + nb + nc) w (by omega)
  rw [show ((na + nb + nc : Nat) : Int) = (na : Int) + (nb : Int) + (nc : Int) by omega] at cg
  have HA : Hid (HasRts w (.slice oa na ca) la) := ha
  have HB : Hid (HasRts w (.slice ob nb cb) lb) := hbb
  have HC : Hid (HasRts w (.slice oc nc cc) lc) := hc
  have hia : (na : Int) ≤ 1000 := by omega
  have hib : (nb : Int) ≤ 1000 := by omega
  have hic : (nc : Int) ≤ 1000 := by omega
  have hn0 : decide ((na : Int) < 0) = false := by simp
  have hn1 : decide ((na : Int) + (nb : Int) < 0) = false := by simp; omega
  have hn2 : decide ((na : Int) + (nb : Int) + (nc : Int) < 0) = false := by simp; omega
  clear ea eb ec ha hbb hc
  go_enter Try.func30, Try.ntmps30
  go_wp2_with fail
  refine wp_loop_rounds 4 ?_
  repeat any_goals (rw [rounds_succ]; go_wp2_with fail)
  go_at_call 54; refine (cg _).mono ?_; rintro e w1 ⟨v0, rfl, ho1, hb1⟩
  obtain ⟨v1, w2, hr1, ho2, hg1⟩ := append_row info_rt Try.underlying22 rfl (by decide) ho1 (HA.out.keep hb1) (one_routes la) (by rw [← EA.out]; omega) (by rw [← EA.out]; omega) hb1.size
  have hb2 : Below w.heap.size w w2 := hb1.grown hg1 hb1.size (fun k e => (ho1.lt k e).1)
  obtain ⟨v2, w3, hr2, ho3, hg2⟩ := append_row info_rt Try.underlying22 rfl (by decide) ho2 (HB.out.keep hb2) (one_routes lb) (by rw [← EA.out, ← EB.out]; omega) (by rw [← EA.out, ← EB.out]; omega) hb2.size
  have hb3 : Below w.heap.size w w3 := hb2.grown hg2 hb2.size (fun k e => (ho2.lt k e).1)
  obtain ⟨v3, w4, hr3, ho4, hg3⟩ := append_row info_rt Try.underlying22 rfl (by decide) ho3 (HC.out.keep hb3) (one_routes lc) (by rw [← EA.out, ← EB.out, ← EC.out]; omega) (by rw [← EA.out, ← EB.out, ← EC.out]; omega) hb3.size
  have hb4 : Below w.heap.size w w4 := hb3.grown hg3 hb3.size (fun k e => (ho3.lt k e).1)
  have HO : Hid (w4.ownsRow w.heap.size 37 6 v3 (la ++ (lb ++ lc)).length (rtCs (la ++ (lb ++ lc)))) := by
    show w4.ownsRow _ _ _ _ _ _
    rw [rtCs_app, rtCs_app, List.length_append, List.length_append]
    simp only [Nat.zero_add, List.nil_append, List.append_assoc, Nat.add_assoc] at ho4
    exact ho4
  have y0 := (hb1.cell (p := ⟨b, 0, none⟩) hb).trans h0
  have y1 := (hb2.cell (p := ⟨b, 1, none⟩) hb).trans h1
  have y2 := (hb3.cell (p := ⟨b, 2, none⟩) hb).trans h2
  clear ho1 ho2 ho3 ho4 hg1 hg2 hg3 hb1 hb2 hb3
  go_wp2_with fail
  refine wp_loop_rounds 4 ?_
  repeat any_goals (rw [rounds_succ]; go_wp2_with fail)
  go_ret
  exact ⟨_, rfl, HO.out, hb4⟩
set_option maxHeartbeats 4000000 in
set_option maxRecDepth 20000 in
theorem concat2_any (b : Nat) (la lb : List Rt) (oa ob : Option Addr) (na nb ca cb : Nat) (w : World) (hb : b < w.heap.size) (h0 : w.cell? ⟨b, 0, none⟩ = some (.slice oa na ca)) (h1 : w.cell? ⟨b, 1, none⟩ = some (.slice ob nb cb))
    (ea : na = la.length) (eb : nb = lb.length)
    (ha : HasRts w (.slice oa na ca) la) (hbb : HasRts w (.slice ob nb cb) lb) (hla : na ≤ 1000) (hlb : nb ≤ 1000) :
    Calls Try.prog 30 #[.slice (some ⟨b, 0, none⟩) 2 2] w fun e w' => ∃ v, e = .returned v ∧ w'.ownsRow w.heap.size 37 6 v (la ++ lb).length (rtCs (la ++ lb)) ∧ Below w.heap.size w w' := by
  have EA : Hid (na = la.length) := ea
  have EB : Hid (nb = lb.length) := eb
  have cg := fun w => grow_any (na + nb) w (by omega)
  rw [show ((na + nb : Nat) : Int) = (na : Int) + (nb : Int) by omega] at cg
  have HA : Hid (HasRts w (.slice oa na ca) la) := ha
  have HB : Hid (HasRts w (.slice ob nb cb) lb) := hbb
  have hia : (na : Int) ≤ 1000 := by omega
  have hib : (nb : Int) ≤ 1000 := by omega
  have hn0 : decide ((na : Int) < 0) = false := by simp
  have hn1 : decide ((na : Int) + (nb : Int) < 0) = false := by simp; omega
  clear ea eb ha hbb
  go_enter Try.func30, Try.ntmps30
  go_wp2_with fail
  refine wp_loop_rounds 3 ?_
  repeat any_goals (rw [rounds_succ]; go_wp2_with fail)
  go_at_call 54; refine (cg _).mono ?_; rintro e w1 ⟨v0, rfl, ho1, hb1⟩
  obtain ⟨v1, w2, hr1, ho2, hg1⟩ := append_row info_rt Try.underlying22 rfl (by decide) ho1 (HA.out.keep hb1) (one_routes la) (by rw [← EA.out]; omega) (by rw [← EA.out]; omega) hb1.size
  have hb2 : Below w.heap.size w w2 := hb1.grown hg1 hb1.size (fun k e => (ho1.lt k e).1)
  obtain ⟨v2, w3, hr2, ho3, hg2⟩ := append_row info_rt Try.underlying22 rfl (by decide) ho2 (HB.out.keep hb2) (one_routes lb) (by rw [← EA.out, ← EB.out]; omega) (by rw [← EA.out, ← EB.out]; omega) hb2.size
  have hb3 : Below w.heap.size w w3 := hb2.grown hg2 hb2.size (fun k e => (ho2.lt k e).1)
  have HO : Hid (w3.ownsRow w.heap.size 37 6 v2 (la ++ lb).length (rtCs (la ++ lb))) := by
    show w3.ownsRow _ _ _ _ _ _
    rw [rtCs_app, List.length_append]
    simp only [Nat.zero_add, List.nil_append] at ho3
    exact ho3
  have y0 := (hb1.cell (p := ⟨b, 0, none⟩) hb).trans h0
  have y1 := (hb2.cell (p := ⟨b, 1, none⟩) hb).trans h1
  clear ho1 ho2 ho3 hg1 hg2 hb1 hb2
  go_wp2_with fail
  refine wp_loop_rounds 3 ?_
  repeat any_goals (rw [rounds_succ]; go_wp2_with fail)
  go_ret
  exact ⟨_, rfl, HO.out, hb3⟩
end Go.Proofs.Ytaaedgfacnaggaa.Tr
namespace Go.Proofs.Ytaaedgfacnaggaa.Tr
open Go.RowKit
open Go.Proofs.Ytaaedgfacnaggaa.Addr (results_cell RowAt below_new bset RowAt.lt RowAt.cell RowAt.new RowAt.alloc cells4)
attribute [-go_sem] Builtin.append_
set_option maxHeartbeats 4000000 in
set_option maxRecDepth 20000 in
theorem grown1_walk (s0 : Bool) (s1 s2 s3 s4 s5 : Int) (w : World) : Calls Try.prog 24 #[.agg #[.bool s0, .int .u64 s1, .int .u64 s2, .int .i64 s3, .int .u8 s4, .int .i64 s5]] w fun e w' => e = .returned (.agg #[.bool s0, .int .u64 s1, .int .u64 s2, .int .i64 s3]) ∧ Below w.heap.size w w' := by
  obtain ⟨X, hX⟩ : ∃ X, X = (w.alloc (.cells #[.bool s0, .int .u64 s1, .int .u64 s2, .int .i64 s3, .int .u8 s4, .int .i64 s5] 37)).alloc (.cells #[.bool false, .int .u64 0, .int .u64 0, .int .i64 0] 32) := ⟨_, rfl⟩
  have hB : Below w.heap.size w X := by rw [hX]; exact below_new (below_new (Below.refl _ _) _) _
  have r0 : RowAt X w.heap.size [.bool s0, .int .u64 s1, .int .u64 s2, .int .i64 s3, .int .u8 s4, .int .i64 s5] 37 := by rw [hX]; exact (RowAt.new _ _ _).alloc _
  have r1 : RowAt X (w.heap.size + 1) [.bool false, .int .u64 0, .int .u64 0, .int .i64 0] 32 := by rw [hX, ← World.size_alloc w (.cells #[.bool s0, .int .u64 s1, .int .u64 s2, .int .i64 s3, .int .u8 s4, .int .i64 s5] 37)]; exact RowAt.new _ _ _
  have y0 := r0.cell 0
  have y1 := r0.cell 1
  have y2 := r0.cell 2
  have y3 := r0.cell 3
  simp only [List.getElem?_cons_zero, List.getElem?_cons_succ] at y0 y1 y2 y3
  obtain ⟨z0, z1, z2, z3, zf⟩ := cells4 r1
  have hlt := r1.lt
  go_enter Try.func24, Try.ntmps24
  go_upto_region 1 with fail
  rw [← hX]
  clear hX r0 r1
  go_wp2_with fail
  (try simp only [Exit.inBlock, Exit.then])
  refine bodyPost_ret (v := .agg #[.bool s0, .int .u64 s1, .int .u64 s2, .int .i64 s3]) ?_ rfl ⟨rfl, bset (bset (bset (bset hB (by omega)) (by omega)) (by omega)) (by omega)⟩
  rw [results_cell rfl]
  go_simp
theorem info_nd : (Try.prog.info? 81).map (fun i => (i.zero, i.size, i.bytes)) = some (some (.agg #[.bool false, .int .u64 0, .int .u64 0, .int .i64 0, .bool false, .int .u64 0, .int .u64 0, .int .i64 0, .int .u8 0, .int .i64 0, .slice none 0 0]), 11, 104) := by kernel_rfl
set_option maxRecDepth 20000 in
/-- one node more at a row's end -/
theorem append_node {W : World} {n₀ k : Nat} {v : Value} {xs : List Value} (r : Rt) (o : Option Addr) (n c : Nat) (hown : W.ownsRow n₀ 81 11 v k xs) (hk : k ≤ 1000) (hn : n₀ ≤ W.heap.size) :
    ∃ g cap w3, (∀ ty, (Builtin.append_ #[79, 79] ty #[v, .slice (some ⟨W.heap.size, 0, none⟩) 1 1]).run Try.prog (W.alloc (.cells (nodeC r (.slice o n c)).toArray 81)) = .ok (.slice (some ⟨g, 0, none⟩) (k + 1) cap) w3) ∧
      w3.ownsRow n₀ 81 11 (.slice (some ⟨g, 0, none⟩) (k + 1) cap) (k + 1) (xs ++ nodeC r (.slice o n c)) ∧ (W.alloc (.cells (nodeC r (.slice o n c)).toArray 81)).grownBy w3 v.ownBlock ∧ (v.ownBlock = some g ∨ W.heap.size < g) := by
  obtain ⟨i0, hi, hz0, hz1, hz2⟩ := info_parts info_nd
  have hrow := RowAt.new W (nodeC r (.slice o n c)) 81
  have hsz : (W.alloc (.cells (nodeC r (.slice o n c)).toArray 81)).heap.size = W.heap.size + 1 := World.size_alloc _ _
  have hnews : ∀ j u, (nodeC r (.slice o n c))[j]? = some u → (W.alloc (.cells (nodeC r (.slice o n c)).toArray 81)).cell? ((⟨W.heap.size, 0, none⟩ : Addr).add j) = some u := fun j u hj => by rw [Lk.addr_add, Nat.zero_add]; exact (hrow.cell j).trans hj
  have h1c : ∀ u ∈ nodeC r (.slice o n c), u.oneCell' = true := by
    intro u hu
    simp only [nodeC, pfC, rtC, List.cons_append, List.nil_append, List.mem_cons, List.not_mem_nil, or_false] at hu
    rcases hu with rfl | rfl | rfl | rfl | rfl | rfl | rfl | rfl | rfl | rfl | rfl <;> rfl
  obtain ⟨W1, hW1⟩ : ∃ W1, W1 = W.alloc (.cells (nodeC r (.slice o n c)).toArray 81) := ⟨_, rfl⟩
  have hown1 : W1.ownsRow n₀ 81 11 v k xs := by rw [hW1]; exact hown.alloc _
  rw [← hW1] at hnews hsz ⊢
  have h := fun ty => run_append_own (P := Try.prog) W1 n₀ 79 ty 81 i0 _ 11 104 Try.underlying79 hi hz0 hz1 hz2 rfl (by decide) v k xs hown1 ⟨W.heap.size, 0, none⟩ 1 1 (nodeC r (.slice o n c)) rfl hnews h1c (by unfold maxLen; omega) (by omega) (by omega)
  obtain ⟨v', w3, hrun, h1, h2, h3⟩ := h 0
  obtain ⟨g, cap, rfl⟩ : ∃ g cap, v' = .slice (some ⟨g, 0, none⟩) (k + 1) cap := by
    rcases h1.2 with ⟨_, h0⟩ | ⟨g, cap, cur, e, _⟩
    · omega
    · exact ⟨g, cap, e⟩
  refine ⟨g, cap, w3, fun ty => hrun, h1, h2, ?_⟩
  rcases hown1.2 with ⟨rfl, rfl⟩ | ⟨g0, cap0, cur, rfl, hbg, hg, hnc, hcm, hcs, htk⟩
  · right
    have hr := run_append_nil (P := Try.prog) W1 79 0 81 i0 _ Try.underlying79 hi hz0 ⟨W.heap.size, 0, none⟩ 1 1 (nodeC r (.slice o n c)) (by rw [hz1]; rfl) hnews (by omega) (by omega) (by rw [hz2]; omega)
    have e := hrun.symm.trans hr
    injection e with e1 e2
    injection e1 with e1
    injection e1 with e1
    injection e1 with e1
    omega
  · by_cases hroom : k + 1 ≤ cap0
    · left
      have hfit : k * i0.size + (nodeC r (.slice o n c)).length ≤ cur.size := by rw [hz1, nodeC_len, hcs]; have := Nat.mul_le_mul_right 11 hroom; omega
      have hr := run_append_room (P := Try.prog) W1 79 0 81 i0 Try.underlying79 hi g0 k cap0 cur hg ⟨W.heap.size, 0, none⟩ 1 1 (nodeC r (.slice o n c)) (by rw [hz1]; rfl) hnews h1c hroom hfit
      have e := hrun.symm.trans hr
      injection e with e1 e2
      injection e1 with e1
      injection e1 with e1
      injection e1 with e1
      rw [e1]
      rfl
    · right
      have hr := run_append_grow (P := Try.prog) W1 79 0 81 i0 _ Try.underlying79 hi hz0 ⟨g0, 0, none⟩ k cap0 xs (by rw [hz1]; exact hown1.1) (hown1.cells (g := g0) rfl) ⟨W.heap.size, 0, none⟩ 1 1 (nodeC r (.slice o n c)) (by rw [hz1]; rfl) hnews (by omega) (by omega) (growslice_fits (by omega) (by rw [hz2]; omega))
      have e := hrun.symm.trans hr
      injection e with e1 e2
      injection e1 with e1
      injection e1 with e1
      injection e1 with e1
      omega
end Go.Proofs.Ytaaedgfacnaggaa.Tr
namespace Go.Proofs.Ytaaedgfacnaggaa.Tr
open Go.RowKit
open Go.Proofs.Ytaaedgfacnaggaa.Lk (HasRow)
open Go.Proofs.Ytaaedgfacnaggaa.Addr (Pf okP kP coversB below2 below_new RowAt.lt RowAt.below RowAt.alloc)
theorem own_keep {W W' : World} {m e size k : Nat} {v : Value} {xs : List Value} (h : W.ownsRow m e size v k xs) (hb : Below W.heap.size W W') : W'.ownsRow m e size v k xs := by
  refine ⟨h.1, ?_⟩
  rcases h.2 with h0 | ⟨g, cap, cur, e1, hg, hgb, rest⟩
  · exact .inl h0
  · exact .inr ⟨g, cap, cur, e1, hg, (hb.block g (Array.getElem?_eq_some_iff.1 hgb).1).trans hgb, rest⟩
/-- between two rounds -/
structure UR (L : List Rt) (v : Value) (p : Pf) (N : Nat) (w wr : World) (lv u : Value) (j : Nat) : Prop where
  jl : j ≤ L.length
  lt : ∀ W : World, HasRts W v L → HasRts W lv (L.drop j)
  cov : ∀ x ∈ L.take j, coversB p x.pf = true
  bl : Below w.heap.size w wr
  tr : ∃ (s : List Seg) (us : List Value), us.length = s.length ∧ s.length ≤ j ∧ L.take j = flat s ∧ Good s p.six ∧ wr.ownsRow w.heap.size 81 11 u s.length (nodeCs s us) ∧ (∀ i (h : i < s.length) (h2 : i < us.length), HasTrie N wr (fun b => w.heap.size ≤ b ∧ b < wr.heap.size ∧ u.ownBlock ≠ some b) p.six us[i] s[i].2) ∧ ∀ y ∈ s, ∀ x ∈ L.drop j, x.pf.six = p.six → y.1.pf.n + 2 ^ kP y.1.pf ≤ x.pf.n
theorem UR.below {L : List Rt} {v : Value} {p : Pf} {N : Nat} {w wr W : World} {lv u : Value} {j : Nat} (h : UR L v p N w wr lv u j) (hb : Below wr.heap.size wr W) : UR L v p N w W lv u j := by
  refine ⟨h.jl, h.lt, h.cov, below2 h.bl hb, ?_⟩
  obtain ⟨s, us, h1, h2, h3, h4, h5, h6, h7⟩ := h.tr
  refine ⟨s, us, h1, h2, h3, h4, own_keep h5 hb, fun i a b => ?_, h7⟩
  exact ((h6 i a b).below (fun b hb' => hb'.2.1) hb).mono _ (fun b hb' => ⟨hb'.1, Nat.lt_of_lt_of_le hb'.2.1 hb.size, hb'.2.2⟩)
theorem UR.next {L : List Rt} {v : Value} {p : Pf} {N : Nat} {w W : World} {lv u : Value} {j : Nat} (h : UR L v p N w W lv u j) (hj : j < L.length) (hup : Up L) (hok : ∀ x ∈ L, okP x.pf = true) (hc : coversB p L[j].pf = true)
    {s : List Seg} {us : List Value} (h1 : us.length = s.length) (h2 : s.length ≤ j) (h3 : L.take j = flat s) (h4 : Good s p.six) (h5 : W.ownsRow w.heap.size 81 11 u s.length (nodeCs s us)) (h6 : ∀ i (h : i < s.length) (h2 : i < us.length), HasTrie N W (fun b => w.heap.size ≤ b ∧ b < W.heap.size ∧ u.ownBlock ≠ some b) p.six us[i] s[i].2) (h7 : ∀ y ∈ s, ∀ x ∈ L.drop j, x.pf.six = p.six → y.1.pf.n + 2 ^ kP y.1.pf ≤ x.pf.n)
    {j2 : Nat} {u2 lv2 : Value} (hj2 : j2 ≤ (L.drop (j + 1)).length) (hlv : ∀ W : World, HasRts W v L → HasRts W lv2 (L.drop (j + 1 + j2))) (hcov2 : ∀ x ∈ (L.drop (j + 1)).take j2, coversB L[j].pf x.pf = true) (hst : ∀ hh : j2 < (L.drop (j + 1)).length, coversB L[j].pf (L.drop (j + 1))[j2].pf = false)
    {bq : Nat} (hbq : w.heap.size ≤ bq) (hbq2 : ∀ k, u.ownBlock = some k → k < bq) (ht : HasTrie N W (fun b => bq ≤ b ∧ b < W.heap.size) L[j].pf.six u2 ((L.drop (j + 1)).take j2))
    {g' cap : Nat} {w6 : World} {X : Obj} (ho : w6.ownsRow w.heap.size 81 11 (.slice (some ⟨g', 0, none⟩) (s.length + 1) cap) (s.length + 1) (nodeCs s us ++ nodeC L[j] u2)) (hg : (W.alloc X).grownBy w6 u.ownBlock) (hg2 : u.ownBlock = some g' ∨ W.heap.size < g') :
    UR L v p N w w6 lv2 (.slice (some ⟨g', 0, none⟩) (s.length + 1) cap) (j + 1 + j2) := by
  rw [List.length_drop] at hj2
  have hsz : W.heap.size < w6.heap.size := by have := hg.size; rw [World.size_alloc] at this; omega
  have hd : L.drop j = L[j] :: L.drop (j + 1) := List.drop_eq_getElem_cons hj
  have htk : L.take (j + 1 + j2) = L.take j ++ (L[j] :: (L.drop (j + 1)).take j2) := by
    rw [Nat.add_assoc, List.take_add, hd, show 1 + j2 = j2 + 1 by omega, List.take_succ_cons]
  have h6j : L[j].pf.six = p.six := covers_six hc
  have hkeep : ∀ b, b < W.heap.size → u.ownBlock ≠ some b → w6.heap[b]? = W.heap[b]? := fun b hb hne => by
    rw [hg.block b (by rw [World.size_alloc]; omega) (fun e => hne e.symm)]
    exact Below.heap_alloc W X _ hb
  have hnew : ∀ b, b < W.heap.size → u.ownBlock ≠ some b → (Value.slice (some ⟨g', 0, none⟩) (s.length + 1) cap).ownBlock ≠ some b := fun b hb hne e => by
    have e2 : g' = b := by injection e
    subst e2
    rcases hg2 with e3 | e3
    · exact hne e3
    · omega
  refine ⟨by omega, hlv, fun x hx => ?_, ?_, s ++ [(L[j], (L.drop (j + 1)).take j2)], us ++ [u2], by simp [h1], by simp; omega, ?_, ?_, ?_, fun i hi hi2 => ?_, fun y hy x hx hs => ?_⟩
  · rw [htk] at hx
    rcases List.mem_append.1 hx with hx | hx
    · exact h.cov x hx
    · rcases List.mem_cons.1 hx with rfl | hx
      · exact hc
      · exact covers_trans hc (hcov2 x hx)
  · exact (below_new h.bl X).grown hg (by rw [World.size_alloc]; have := h.bl.size; omega) (fun k e => (h5.lt k e).1)
  · rw [flat_snoc, ← h3, htk]
  · exact good_snoc h4 (hok _ (List.getElem_mem hj)) h6j hcov2 (fun y hy => h7 y hy L[j] (by rw [hd]; exact List.mem_cons_self) h6j)
  · rw [nodeCs_app s us _ _ h1, List.length_append]
    exact ho
  · by_cases his : i < s.length
    · have e1 : (us ++ [u2])[i] = us[i]'(by omega) := List.getElem_append_left (by omega)
      have e2 : (s ++ [(L[j], (L.drop (j + 1)).take j2)])[i] = s[i] := List.getElem_append_left his
      rw [e1, e2]
      refine (HasTrie.keepQ N (h6 i his (by omega)) (fun b hb => hkeep b hb.2.1 hb.2.2) (by omega)).mono _ (fun b hb => ⟨hb.1, by have := hb.2.1; omega, hnew b hb.2.1 hb.2.2⟩)
    · have hie : i = s.length := by simp at hi; omega
      subst hie
      have e1 : (us ++ [u2])[s.length] = u2 := by rw [List.getElem_append_right (by omega)]; simp [h1]
      have e2 : (s ++ [(L[j], (L.drop (j + 1)).take j2)])[s.length] = (L[j], (L.drop (j + 1)).take j2) := by rw [List.getElem_append_right (by omega)]; simp
      rw [e1, e2, ← h6j]
      have hno : ∀ b, bq ≤ b → u.ownBlock ≠ some b := fun b hb e => by have := hbq2 b e; omega
      refine (HasTrie.keepQ N ht (fun b hb => hkeep b hb.2 (hno b hb.1)) (by omega)).mono _ (fun b hb => ⟨by have := hb.1; omega, by have := hb.2; omega, hnew b hb.2 (hno b hb.1)⟩)
  · rcases List.mem_append.1 hy with hy | hy
    · refine h7 y hy x ?_ hs
      have e : L.drop (j + 1 + j2) = (L.drop j).drop (1 + j2) := by rw [List.drop_drop]; congr 1; omega
      rw [e] at hx
      exact List.mem_of_mem_drop hx
    · simp at hy
      subst hy
      have e : L.drop (j + 1 + j2) = (L.drop (j + 1)).drop j2 := by rw [List.drop_drop]
      rw [e] at hx
      refine behind_all (L := L.drop (j + 1)) (r := L[j]) (j := j2) ?_ (hok _ (List.getElem_mem hj)) (fun x hx => hok x (List.mem_of_mem_drop hx)) hst x hx (hs.trans h6j.symm)
      rw [← hd]
      exact hup.sublist (List.drop_sublist _ _)
theorem trie_slice {f : Nat} {W : World} {Q : Nat → Prop} {six : Bool} {v : Value} {L : List Rt} (h : HasTrie f W Q six v L) : ∃ o n c, v = .slice o n c := by
  cases f with
  | zero => exact ⟨none, 0, 0, h.2⟩
  | succ f =>
    obtain ⟨s, us, _, _, _, h4, _⟩ := h
    obtain ⟨o, c, e, _, _⟩ := Lk.HasRow.slice h4
    exact ⟨o, _, c, e⟩
end Go.Proofs.Ytaaedgfacnaggaa.Tr
