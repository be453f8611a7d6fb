/- Rows of nodes in memory. -/
import Derived.Test.YtklbnnnkogghpaaTrMath
import Derived.Test.YtklbnnnkogghpaaTrPutM
set_option linter.unusedVariables false
namespace Go.Proofs.Ytklbnnnkogghpaa.Tr
open Go.RowKit
open Go.Proofs.Ytklbnnnkogghpaa.Addr (Pf okP checkP wideN rightB hasB coversB kP hiN loN)
open Go.Proofs.Ytklbnnnkogghpaa.Lk (HasRow addr_add)
def pfC (p : Pf) : List Value := [.bool p.six, .int .u64 (hiN p.n : Int), .int .u64 (loN p.n : Int), .int .i64 p.len]
def nodeC (r : Rt) (u : Value) : List Value := pfC r.pf ++ (rtC r ++ [u])
def nodeCs : List Seg → List Value → List Value
  | s :: ss, u :: us => nodeC s.1 u ++ nodeCs ss us
  | _, _ => []
theorem nodeC_len (r : Rt) (u : Value) : (nodeC r u).length = 11 := rfl
theorem nodeCs_len : ∀ (s : List Seg) (us : List Value), us.length = s.length → (nodeCs s us).length = s.length * 11
  | [], [], _ => rfl
  | s :: ss, u :: us, h => by
    show (nodeC s.1 u ++ nodeCs ss us).length = _
    rw [List.length_append, nodeC_len, nodeCs_len ss us (by simpa using h), List.length_cons]
    omega
  | [], u :: us, h => by simp at h
  | s :: ss, [], h => by simp at h
theorem nodeCs_app : ∀ (s : List Seg) (us : List Value) (x : Seg) (u : Value), us.length = s.length → nodeCs (s ++ [x]) (us ++ [u]) = nodeCs s us ++ nodeC x.1 u
  | [], [], x, u, _ => by show nodeC x.1 u ++ [] = _; rw [List.append_nil]; rfl
  | s :: ss, v :: us, x, u, h => by
    show nodeC s.1 v ++ nodeCs (ss ++ [x]) (us ++ [u]) = (nodeC s.1 v ++ nodeCs ss us) ++ _
    rw [nodeCs_app ss us x u (by simpa using h), List.append_assoc]
  | [], u :: us, _, _, h => by simp at h
  | s :: ss, [], _, _, h => by simp at h
theorem nodeCs_at : ∀ (s : List Seg) (us : List Value), us.length = s.length → ∀ j (h : j < s.length) (h2 : j < us.length) t, t < 11 → (nodeCs s us)[11 * j + t]? = (nodeC s[j].1 us[j])[t]?
  | [], _, _, j, h, _, _, _ => by simp at h
  | s :: ss, [], h, _, _, _, _, _ => by simp at h
  | s :: ss, u :: us, hl, j, h, h2, t, ht => by
    show (nodeC s.1 u ++ nodeCs ss us)[11 * j + t]? = _
    cases j with
    | zero => rw [List.getElem?_append_left (by rw [nodeC_len]; omega)]; simp
    | succ j =>
      rw [List.getElem?_append_right (by rw [nodeC_len]; omega), nodeC_len, show 11 * (j + 1) + t - 11 = 11 * j + t by omega, nodeCs_at ss us (by simpa using hl) j (by simpa using h) (by simpa using h2) t ht]
      rfl
/-- a row, whose block is one of some -/
def InQ (Q : Nat → Prop) (v : Value) : Prop := ∀ a n c, v = .slice (some a) n c → Q a.block
def HasTrie : Nat → World → (Nat → Prop) → Bool → Value → List Rt → Prop
  | 0, _, _, _, v, L => L = [] ∧ v = .slice none 0 0
  | f + 1, W, Q, six, v, L => ∃ (s : List Seg) (us : List Value), us.length = s.length ∧ L = flat s ∧ Good s six ∧ HasRow W v 11 s.length (nodeCs s us) ∧ InQ Q v ∧ ∀ i (h : i < s.length) (h2 : i < us.length), HasTrie f W Q six us[i] s[i].2
theorem row_keepQ {W W' : World} {Q : Nat → Prop} {v : Value} {sz n : Nat} {cs : List Value} (h : HasRow W v sz n cs) (hq : InQ Q v) (hb : ∀ b, Q b → W'.heap[b]? = W.heap[b]?) (hs : W.heap.size ≤ W'.heap.size) : HasRow W' v sz n cs := by
  refine ⟨h.1, ?_⟩
  rcases h.2 with h0 | ⟨a, cap, e, h1, h2, h3, h4⟩
  · exact .inl h0
  · refine .inr ⟨a, cap, e, h1, h2, fun h => ⟨(h3 h).1, Nat.lt_of_lt_of_le (h3 h).2 hs⟩, fun j hj => ?_⟩
    have hbk := hb _ (hq a _ _ e)
    rw [← h4 j hj]
    have : (a.add j).block = a.block := by unfold Addr.add; split <;> rfl
    exact World.cell?_of_block (by rw [this]; exact hbk)
theorem HasTrie.keepQ : ∀ (f : Nat) {W W' : World} {Q : Nat → Prop} {six : Bool} {v : Value} {L : List Rt}, HasTrie f W Q six v L → (∀ b, Q b → W'.heap[b]? = W.heap[b]?) → W.heap.size ≤ W'.heap.size → HasTrie f W' Q six v L
  | 0, _, _, _, _, _, _, h, _, _ => h
  | f + 1, W, W', Q, six, v, L, h, hb, hs => by
    obtain ⟨s, us, h1, h2, h3, h4, h5, h6⟩ := h
    exact ⟨s, us, h1, h2, h3, row_keepQ h4 h5 hb hs, h5, fun i a b => HasTrie.keepQ f (h6 i a b) hb hs⟩
theorem HasTrie.mono : ∀ (f : Nat) {W : World} {Q Q' : Nat → Prop} {six : Bool} {v : Value} {L : List Rt}, HasTrie f W Q six v L → (∀ b, Q b → Q' b) → HasTrie f W Q' six v L
  | 0, _, _, _, _, _, _, h, _ => h
  | f + 1, W, Q, Q', six, v, L, h, hq => by
    obtain ⟨s, us, h1, h2, h3, h4, h5, h6⟩ := h
    exact ⟨s, us, h1, h2, h3, h4, fun a n c e => hq _ (h5 a n c e), fun i a b => HasTrie.mono f (h6 i a b) hq⟩
theorem HasTrie.below {f : Nat} {W W' : World} {Q : Nat → Prop} {six : Bool} {v : Value} {L : List Rt} (h : HasTrie f W Q six v L) (hq : ∀ b, Q b → b < W.heap.size) (hb : Below W.heap.size W W') : HasTrie f W' Q six v L :=
  HasTrie.keepQ f h (fun b hb' => hb.block b (hq b hb')) hb.size
theorem trie_nil (f : Nat) (W : World) (Q : Nat → Prop) (six : Bool) : HasTrie f W Q six (.slice none 0 0) [] := by
  cases f with
  | zero => exact ⟨rfl, rfl⟩
  | succ f => exact ⟨[], [], rfl, rfl, good_nil six, Lk.hasRow_nil W 11, (fun a n c e => by cases e), fun i h => by simp at h⟩
/-- one segment more -/
theorem good_snoc {s : List Seg} {six : Bool} {r : Rt} {S : List Rt} (hg : Good s six) (hr : okP r.pf = true) (h6 : r.pf.six = six) (hS : ∀ x ∈ S, coversB r.pf x.pf = true) (hb : ∀ y ∈ s, y.1.pf.n + 2 ^ kP y.1.pf ≤ r.pf.n) : Good (s ++ [(r, S)]) six := by
  refine ⟨fun x hx => ?_, fun x hx => ?_, fun x hx => ?_, List.pairwise_append.2 ⟨hg.up, by simp, fun x hx y hy => ?_⟩⟩
  · rcases List.mem_append.1 hx with hx | hx
    · exact hg.cov x hx
    · simp at hx; subst hx; exact hS
  · rcases List.mem_append.1 hx with hx | hx
    · exact hg.six x hx
    · simp at hx; subst hx; exact h6
  · rcases List.mem_append.1 hx with hx | hx
    · exact hg.ok x hx
    · simp at hx; subst hx; exact hr
  · simp at hy; subst hy; exact hb x hx
theorem flat_snoc (s : List Seg) (r : Rt) (S : List Rt) : flat (s ++ [(r, S)]) = flat s ++ (r :: S) := by
  unfold flat
  rw [List.flatMap_append]
  simp
/-- what stands behind a route that does not cover the next one begins behind it -/
theorem behind_all {L : List Rt} {r : Rt} {j : Nat} (hu : (r :: L).Pairwise (fun x y => ltP x.pf y.pf)) (hr : okP r.pf = true) (ho : ∀ x ∈ L, okP x.pf = true) (hj : ∀ h : j < L.length, coversB r.pf L[j].pf = false) : ∀ x ∈ L.drop j, x.pf.six = r.pf.six → r.pf.n + 2 ^ kP r.pf ≤ x.pf.n := by
  intro x hx hs
  obtain ⟨i, hi, rfl⟩ := List.getElem_of_mem hx
  rw [List.length_drop] at hi
  rw [List.getElem_drop] at hs ⊢
  have hjl : j < L.length := by omega
  have hp := List.pairwise_cons.1 hu
  have h1 := hp.1 L[j] (List.getElem_mem hjl)
  have key : ∀ (hsj : L[j].pf.six = r.pf.six), r.pf.n + 2 ^ kP r.pf ≤ L[j].pf.n := fun hsj => apart_of hr (ho _ (List.getElem_mem hjl)) h1 (hj hjl) hsj
  by_cases e : i = 0
  · subst e
    exact key hs
  · have h2 := List.pairwise_iff_getElem.1 hp.2 j (j + i) hjl (by omega) (by omega)
    unfold ltP at h1 h2
    have hsj : L[j].pf.six = r.pf.six := by
      rcases h1 with ⟨a, b⟩ | ⟨a, b⟩
      · rcases h2 with ⟨c, d⟩ | ⟨c, d⟩
        · rw [b] at c; cases c
        · rw [← c, b, a] at hs; cases hs
      · exact a.symm
    have h3 := key hsj
    rcases h2 with ⟨c, d⟩ | ⟨c, d⟩
    · rw [hsj] at c; rw [d, c] at hs; cases hs
    · omega
end Go.Proofs.Ytklbnnnkogghpaa.Tr
