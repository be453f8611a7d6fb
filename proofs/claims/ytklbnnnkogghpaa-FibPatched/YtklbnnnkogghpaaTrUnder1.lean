/- trie.under: what a round of its loop makes, plain. -/
import Derived.Test.YtklbnnnkogghpaaTrUnder
set_option linter.unusedVariables false
namespace Go.Proofs.Ytklbnnnkogghpaa.Tr
open Go.RowKit
open Go.Proofs.Ytklbnnnkogghpaa.Lk (HasRow)
open Go.Proofs.Ytklbnnnkogghpaa.Addr (Pf okP wideN kP hasB coversB hiN loN pfV RowAt below2 below_drew below_new bset RowAt.lt RowAt.cell RowAt.frozen RowAt.below RowAt.drew RowAt.new RowAt.alloc RowAt.gkeep RowAt.set1)
theorem own_keep {W W' : World} {m e size k : Nat} {v : Value} {xs : List Value} (h : W.ownsRow m e size v k xs) (hb : Below W.heap.size W W') : W'.ownsRow m e size v k xs := by
  refine ⟨h.1, ?_⟩
  rcases h.2 with h0 | ⟨g, cap, cur, e1, hg, hgb, rest⟩
  · exact .inl h0
  · exact .inr ⟨g, cap, cur, e1, hg, (hb.block g (Array.getElem?_eq_some_iff.1 hgb).1).trans hgb, rest⟩
/-- between two rounds -/
structure UR (L : List Rt) (v : Value) (p : Pf) (N : Nat) (w wr : World) (lv u : Value) (j : Nat) : Prop where
  jl : j ≤ L.length
  lt : ∀ W : World, HasRts W v L → HasRts W lv (L.drop j)
  cov : ∀ x ∈ L.take j, coversB p x.pf = true
  bl : Below w.heap.size w wr
  tr : ∃ (s : List Seg) (us : List Value), us.length = s.length ∧ s.length ≤ j ∧ L.take j = flat s ∧ Good s p.six ∧ wr.ownsRow w.heap.size 123 11 u s.length (nodeCs s us) ∧ (∀ i (h : i < s.length) (h2 : i < us.length), HasTrie N wr (fun b => w.heap.size ≤ b ∧ b < wr.heap.size ∧ u.ownBlock ≠ some b) p.six us[i] s[i].2) ∧ ∀ y ∈ s, ∀ x ∈ L.drop j, x.pf.six = p.six → y.1.pf.n + 2 ^ kP y.1.pf ≤ x.pf.n
theorem UR.below {L : List Rt} {v : Value} {p : Pf} {N : Nat} {w wr W : World} {lv u : Value} {j : Nat} (h : UR L v p N w wr lv u j) (hb : Below wr.heap.size wr W) : UR L v p N w W lv u j := by
  refine ⟨h.jl, h.lt, h.cov, below2 h.bl hb, ?_⟩
  obtain ⟨s, us, h1, h2, h3, h4, h5, h6, h7⟩ := h.tr
  refine ⟨s, us, h1, h2, h3, h4, own_keep h5 hb, fun i a b => ?_, h7⟩
  exact ((h6 i a b).below (fun b hb' => hb'.2.1) hb).mono _ (fun b hb' => ⟨hb'.1, Nat.lt_of_lt_of_le hb'.2.1 hb.size, hb'.2.2⟩)
theorem UR.next {L : List Rt} {v : Value} {p : Pf} {N : Nat} {w W : World} {lv u : Value} {j : Nat} (h : UR L v p N w W lv u j) (hj : j < L.length) (hup : Up L) (hok : ∀ x ∈ L, okP x.pf = true) (hc : coversB p L[j].pf = true)
    {s : List Seg} {us : List Value} (h1 : us.length = s.length) (h2 : s.length ≤ j) (h3 : L.take j = flat s) (h4 : Good s p.six) (h5 : W.ownsRow w.heap.size 123 11 u s.length (nodeCs s us)) (h6 : ∀ i (h : i < s.length) (h2 : i < us.length), HasTrie N W (fun b => w.heap.size ≤ b ∧ b < W.heap.size ∧ u.ownBlock ≠ some b) p.six us[i] s[i].2) (h7 : ∀ y ∈ s, ∀ x ∈ L.drop j, x.pf.six = p.six → y.1.pf.n + 2 ^ kP y.1.pf ≤ x.pf.n)
    {j2 : Nat} {u2 lv2 : Value} (hj2 : j2 ≤ (L.drop (j + 1)).length) (hlv : ∀ W : World, HasRts W v L → HasRts W lv2 (L.drop (j + 1 + j2))) (hcov2 : ∀ x ∈ (L.drop (j + 1)).take j2, coversB L[j].pf x.pf = true) (hst : ∀ hh : j2 < (L.drop (j + 1)).length, coversB L[j].pf (L.drop (j + 1))[j2].pf = false)
    {bq : Nat} (hbq : w.heap.size ≤ bq) (hbq2 : ∀ k, u.ownBlock = some k → k < bq) (ht : HasTrie N W (fun b => bq ≤ b ∧ b < W.heap.size) L[j].pf.six u2 ((L.drop (j + 1)).take j2))
    {g' cap : Nat} {w6 : World} {X : Obj} (ho : w6.ownsRow w.heap.size 123 11 (.slice (some ⟨g', 0, none⟩) (s.length + 1) cap) (s.length + 1) (nodeCs s us ++ nodeC L[j] u2)) (hg : (W.alloc X).grownBy w6 u.ownBlock) (hg2 : u.ownBlock = some g' ∨ W.heap.size < g') :
    UR L v p N w w6 lv2 (.slice (some ⟨g', 0, none⟩) (s.length + 1) cap) (j + 1 + j2) := by
  rw [List.length_drop] at hj2
  have hsz : W.heap.size < w6.heap.size := by have := hg.size; rw [World.size_alloc] at this; omega
  have hd : L.drop j = L[j] :: L.drop (j + 1) := List.drop_eq_getElem_cons hj
  have htk : L.take (j + 1 + j2) = L.take j ++ (L[j] :: (L.drop (j + 1)).take j2) := by
    rw [Nat.add_assoc, List.take_add, hd, show 1 + j2 = j2 + 1 by omega, List.take_succ_cons]
  have h6j : L[j].pf.six = p.six := covers_six hc
  have hkeep : ∀ b, b < W.heap.size → u.ownBlock ≠ some b → w6.heap[b]? = W.heap[b]? := fun b hb hne => by
    rw [hg.block b (by rw [World.size_alloc]; omega) (fun e => hne e.symm)]
    exact heap_alloc_old W X hb
  have hnew : ∀ b, b < W.heap.size → u.ownBlock ≠ some b → (Value.slice (some ⟨g', 0, none⟩) (s.length + 1) cap).ownBlock ≠ some b := fun b hb hne e => by
    have e2 : g' = b := by injection e
    subst e2
    rcases hg2 with e3 | e3
    · exact hne e3
    · omega
  refine ⟨by omega, hlv, fun x hx => ?_, ?_, s ++ [(L[j], (L.drop (j + 1)).take j2)], us ++ [u2], by simp [h1], by simp; omega, ?_, ?_, ?_, fun i hi hi2 => ?_, fun y hy x hx hs => ?_⟩
  · rw [htk] at hx
    rcases List.mem_append.1 hx with hx | hx
    · exact h.cov x hx
    · rcases List.mem_cons.1 hx with rfl | hx
      · exact hc
      · exact covers_trans hc (hcov2 x hx)
  · exact (below_new h.bl X).grown hg (by rw [World.size_alloc]; have := h.bl.size; omega) (fun k e => (h5.lt k e).1)
  · rw [flat_snoc, ← h3, htk]
  · exact good_snoc h4 (hok _ (List.getElem_mem hj)) h6j hcov2 (fun y hy => h7 y hy L[j] (by rw [hd]; exact List.mem_cons_self) h6j)
  · rw [nodeCs_app s us _ _ h1, List.length_append]
    exact ho
  · by_cases his : i < s.length
    · have e1 : (us ++ [u2])[i] = us[i]'(by omega) := List.getElem_append_left (by omega)
      have e2 : (s ++ [(L[j], (L.drop (j + 1)).take j2)])[i] = s[i] := List.getElem_append_left his
      rw [e1, e2]
      refine (HasTrie.keepQ N (h6 i his (by omega)) (fun b hb => hkeep b hb.2.1 hb.2.2) (by omega)).mono _ (fun b hb => ⟨hb.1, by have := hb.2.1; omega, hnew b hb.2.1 hb.2.2⟩)
    · have hie : i = s.length := by simp at hi; omega
      subst hie
      have e1 : (us ++ [u2])[s.length] = u2 := by rw [List.getElem_append_right (by omega)]; simp [h1]
      have e2 : (s ++ [(L[j], (L.drop (j + 1)).take j2)])[s.length] = (L[j], (L.drop (j + 1)).take j2) := by rw [List.getElem_append_right (by omega)]; simp
      rw [e1, e2, ← h6j]
      have hno : ∀ b, bq ≤ b → u.ownBlock ≠ some b := fun b hb e => by have := hbq2 b e; omega
      refine (HasTrie.keepQ N ht (fun b hb => hkeep b hb.2 (hno b hb.1)) (by omega)).mono _ (fun b hb => ⟨by have := hb.1; omega, by have := hb.2; omega, hnew b hb.2 (hno b hb.1)⟩)
  · rcases List.mem_append.1 hy with hy | hy
    · refine h7 y hy x ?_ hs
      have e : L.drop (j + 1 + j2) = (L.drop j).drop (1 + j2) := by rw [List.drop_drop]; congr 1; omega
      rw [e] at hx
      exact List.mem_of_mem_drop hx
    · simp at hy
      subst hy
      have e : L.drop (j + 1 + j2) = (L.drop (j + 1)).drop j2 := by rw [List.drop_drop]
      rw [e] at hx
      refine behind_all (L := L.drop (j + 1)) (r := L[j]) (j := j2) ?_ (hok _ (List.getElem_mem hj)) (fun x hx => hok x (List.mem_of_mem_drop hx)) hst x hx (hs.trans h6j.symm)
      rw [← hd]
      exact hup.sublist (List.drop_sublist _ _)
theorem trie_slice {f : Nat} {W : World} {Q : Nat → Prop} {six : Bool} {v : Value} {L : List Rt} (h : HasTrie f W Q six v L) : ∃ o n c, v = .slice o n c := by
  cases f with
  | zero => exact ⟨none, 0, 0, h.2⟩
  | succ f =>
    obtain ⟨s, us, _, _, _, h4, _⟩ := h
    obtain ⟨o, c, e, _, _⟩ := Lk.HasRow.slice h4
    exact ⟨o, _, c, e⟩
end Go.Proofs.Ytklbnnnkogghpaa.Tr
