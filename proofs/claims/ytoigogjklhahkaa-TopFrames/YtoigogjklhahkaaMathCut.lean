/- Frames that are cut: those that are whole are read, and no other one. -/
import Derived.Test.YtoigogjklhahkaaWalkFrames
set_option linter.unusedVariables false
namespace Go.Proofs.Ytoigogjklhahkaa.Frame

/-- what is read has the bytes that it was read from -/
theorem nextL_eq {l p r : List UInt8} (h : nextL l = (p, r, 0)) : l = frameL p ++ r ∧ p.length ≤ 4096 := by
  obtain ⟨c, hc, e, hg, hp⟩ := nextL_inv h
  obtain ⟨n, e1, e2, _, _⟩ := put_getGo l 0 0 _ _ (by omega) hg
  have hn : p.length = n := by simpa using e1
  subst hn
  exact ⟨by rw [← e2, frameL, List.append_assoc, List.append_assoc], hp⟩
theorem nextL_cut (z : List UInt8) (hz : z.length ≤ 4096) (k : Nat) (hk : k < (frameL z).length) : (nextL ((frameL z).take k)).2.2 ≠ 0 := by
  intro h
  obtain ⟨⟨p, r, y⟩, hn⟩ : ∃ g, nextL ((frameL z).take k) = g := ⟨_, rfl⟩
  rw [hn] at h
  simp only at h
  subst h
  obtain ⟨e, hp⟩ := nextL_eq hn
  have e2 : frameL z = frameL p ++ (r ++ (frameL z).drop k) := by
    rw [← List.append_assoc, ← e, List.take_append_drop]
  have h1 := nextL_frame z [] hz
  rw [List.append_nil, e2, nextL_frame p _ hp] at h1
  injection h1 with _ h1; injection h1 with h1 _
  have h2 : ((frameL z).drop k).length = 0 := by
    have := congrArg List.length h1
    simp only [List.length_append, List.length_nil] at this
    omega
  rw [List.length_drop] at h2
  omega

/-- how many frames are whole in the first k bytes -/
def cutN : List (List UInt8) → Nat → Nat
  | [], _ => 0
  | z :: zs, k => if (frameL z).length ≤ k then cutN zs (k - (frameL z).length) + 1 else 0
theorem cutN_le (zs : List (List UInt8)) : ∀ k, cutN zs k ≤ zs.length := by
  induction zs with
  | nil => intro k; simp [cutN]
  | cons z zs ih =>
    intro k
    rw [cutN, List.length_cons]
    split
    · have := ih (k - (frameL z).length); omega
    · omega
theorem cutN_size (zs : List (List UInt8)) : ∀ k, (catL (zs.take (cutN zs k))).length ≤ k := by
  induction zs with
  | nil => intro k; simp [catL]
  | cons z zs ih =>
    intro k
    rw [cutN]
    split
    · have := ih (k - (frameL z).length)
      rw [List.take_succ_cons, catL_cons, List.length_append]
      omega
    · simp [catL]
theorem cutN_iff (zs : List (List UInt8)) : ∀ k i, i < zs.length → (i < cutN zs k ↔ (catL (zs.take (i + 1))).length ≤ k) := by
  induction zs with
  | nil => intro k i hi; simp at hi
  | cons z zs ih =>
    intro k i hi
    rw [cutN, List.take_succ_cons, catL_cons, List.length_append]
    split
    · cases i with
      | zero => simp [catL]; omega
      | succ i =>
        have := ih (k - (frameL z).length) i (by simpa using hi)
        omega
    · constructor
      · intro h; omega
      · intro h; omega
theorem all_cut (zs : List (List UInt8)) (h : ∀ z ∈ zs, z.length ≤ 4096) : ∀ k, allL ((catL zs).take k) = (zs.take (cutN zs k), ((catL zs).take k).drop (catL (zs.take (cutN zs k))).length) := by
  induction zs with
  | nil => intro k; simp [catL, cutN]; rfl
  | cons z zs ih =>
    intro k
    have h2 := ih (fun y hy => h y (by simp [hy])) (k - (frameL z).length)
    have hz := h z (by simp)
    rw [cutN, catL_cons]
    split
    · rename_i hk
      rw [List.take_append, List.take_of_length_le hk, allL_ok (nextL_frame z _ hz), h2, List.take_succ_cons, catL_cons, List.length_append, List.drop_length_add_append]
    · rename_i hk
      rw [List.take_append_of_le_length (by omega)]
      obtain ⟨⟨p, r, y⟩, hn⟩ : ∃ g, nextL ((frameL z).take k) = g := ⟨_, rfl⟩
      have hy := nextL_cut z hz k (by omega)
      rw [hn] at hy
      rw [allL_bad hn hy]
      simp [catL]
theorem catL_step (zs : List (List UInt8)) (k : Nat) (h : k < zs.length) : (catL (zs.take (k + 1))).length = (catL (zs.take k)).length + ((putL zs[k].length).length + 4 + zs[k].length) := by
  rw [List.take_succ_eq_append_getElem h, catL_snoc, List.length_append, frameL_len]
end Go.Proofs.Ytoigogjklhahkaa.Frame
