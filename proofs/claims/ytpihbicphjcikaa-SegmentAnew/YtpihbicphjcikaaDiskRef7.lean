/- What the document's Held and Make of disks return. -/
import Derived.Test.YtpihbicphjcikaaDiskRef5
import Derived.Test.YtpihbicphjcikaaDiskOpen
set_option linter.unusedVariables false
namespace Go.Proofs.Ytpihbicphjcikaa.Disk
open Go.RowKit Go.Shelf
attribute [-go_sem] Builtin.append_

theorem getD_set' (S : List (List UInt8)) (k j : Nat) (z : List UInt8) (hk : k < S.length) : (S.set k z).getD j [] = if k = j then z else S.getD j [] := by
  rw [List.getD_eq_getElem?_getD, List.getD_eq_getElem?_getD, List.getElem?_set]
  by_cases h : k = j
  · subst h; rw [if_pos rfl, if_pos rfl, if_pos hk]; rfl
  · rw [if_neg h, if_neg h]
theorem snoc_ind {α : Type} {P : List α → Prop} (h0 : P []) (hs : ∀ l a, P l → P (l ++ [a])) : ∀ l, P l := by
  intro l
  rw [← List.reverse_reverse l]
  generalize l.reverse = r
  induction r with
  | nil => exact h0
  | cons a r ih => rw [List.reverse_cons]; exact hs _ _ ih
theorem holds_settle (secs : List (List UInt8)) (hw : ∀ z ∈ secs, z.length = 128) (ps : List PutT) : ∀ (hp : ∀ p ∈ ps, inB secs.length p.1 = true ∧ p.2.length = 128) (k : Nat), holdsL secs ps (k : Int) = (settleF wholeF 0 secs ps).getD k [] := by
  revert ps
  refine snoc_ind (fun _ k => by simp [holdsL, settleF]) ?_
  · intro ps p ih hp k
    have hp1 := hp p (by simp)
    have hall := settleF_all wholeF (fun _ => Nat.le_refl _) ps 0 secs hw (fun q hq => hp q (by simp [hq]))
    have hlen := settleF_len wholeF ps 0 secs
    have hin := hp1.1
    simp only [inB, decide_eq_true_eq] at hin
    obtain ⟨a, ha⟩ := Int.eq_ofNat_of_zero_le hin.1
    have hal : a < (settleF wholeF 0 secs ps).length := by rw [hlen]; omega
    rw [holdsL_snoc, settleF_snoc, ha, Int.toNat_natCast, getD_set' _ _ _ _ hal, ih (fun q hq => hp q (by simp [hq])) k]
    by_cases h : a = k
    · subst h
      rw [if_pos (by simp), if_pos rfl]
      exact (cutIn_full hp1.2 (hall _ (getD_mem hal))).symm
    · rw [if_neg (by simp; omega), if_neg h]
theorem append_one {W : World} {n₀ k : Nat} {v : Value} {xs : List Value} (Z : ByteArray) (hown : W.ownsRow n₀ 9 1 v k xs) (hk : k ≤ 1000000) (hn : n₀ ≤ W.heap.size) :
    ∃ g cap w3, (∀ ty, (Builtin.append_ #[22, 22] ty #[v, .slice (some ⟨W.heap.size, 0, none⟩) 1 1]).run Try.prog (W.alloc (.cells #[.string Z] 9)) = .ok (.slice (some ⟨g, 0, none⟩) (k + 1) cap) w3) ∧
      w3.ownsRow n₀ 9 1 (.slice (some ⟨g, 0, none⟩) (k + 1) cap) (k + 1) (xs ++ [.string Z]) ∧ (W.alloc (.cells #[.string Z] 9)).grownBy w3 v.ownBlock := by
  obtain ⟨i0, hi, hz0, hz1, hz2⟩ := info_parts info_str
  have h := fun ty => run_append_own (P := Try.prog) (W.alloc (.cells #[.string Z] 9)) n₀ 22 ty 9 i0 (.string ⟨#[]⟩) 1 16 Try.underlying22 hi hz0 hz1 hz2 rfl (by decide) v k xs (hown.alloc _) ⟨W.heap.size, 0, none⟩ 1 1 [.string Z] rfl
    (by intro j u hj; match j, hj with | 0, hj => simp at hj; subst hj; simp [Addr.add]) (by intro u hu; simp at hu; subst hu; rfl) (by unfold maxLen; omega) (by omega) (by simp; omega)
  obtain ⟨v', w3, hrun, h1, h2, h3⟩ := h 0
  obtain ⟨g, cap, rfl⟩ := ownsRow_succ h1
  exact ⟨g, cap, w3, fun ty => hrun, h1, h2⟩
theorem below_own {n : Nat} {w W W' : World} {m e size k : Nat} {v : Value} {xs : List Value} (h : Below n w W) (hn : n ≤ W.heap.size) (hnm : n ≤ m) (hr : W.ownsRow m e size v k xs) (hg : W.grownBy W' v.ownBlock) : Below n w W' :=
  h.grown hg hn (fun j ej => by
    rcases hr.2 with ⟨rfl, _⟩ | ⟨g, cap, cur, rfl, hb, _⟩
    · simp [Value.ownBlock] at ej
    · obtain rfl : g = j := by simpa [Value.ownBlock] using ej
      omega)
theorem own_keep' {w w' : World} {B e size n : Nat} {v : Value} {xs : List Value} (h : w.ownsRow B e size v n xs) (hb : Below w.heap.size w w') : w'.ownsRow B e size v n xs := by
  refine h.kept (row := none) ⟨hb.os, hb.tape, hb.output, hb.size, fun k hk _ => hb.block k hk⟩ ?_
  rcases h.2 with ⟨rfl, _⟩ | ⟨g, cap, cur, rfl, _⟩
  · exact .inl rfl
  · exact .inr (fun e => by simp [Value.ownBlock] at e)
theorem own_slice {W : World} {B e k : Nat} {v : Value} {xs : List Value} (h : W.ownsRow B e 1 v k xs) : ∃ o c, v = .slice o k c := by
  rcases h.2 with ⟨rfl, h0⟩ | ⟨g, cap, cur, rfl, _⟩
  · exact ⟨none, 0, by rw [h0]⟩
  · exact ⟨_, _, rfl⟩
end Go.Proofs.Ytpihbicphjcikaa.Disk
