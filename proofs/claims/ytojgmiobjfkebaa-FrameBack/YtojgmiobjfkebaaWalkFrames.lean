/- Rows of texts that come in; their frames, one behind the other. -/
import Derived.Test.YtojgmiobjfkebaaWalkSame4
set_option linter.unusedVariables false
namespace Go.Proofs.Ytojgmiobjfkebaa.Frame
open Go.RowKit

theorem cell_lt {w : World} {a : Addr} {v : Value} (h : w.cell? a = some v) : a.block < w.heap.size := by
  rcases Nat.lt_or_ge a.block w.heap.size with h' | h'
  · exact h'
  · simp [World.cell?, Array.getElem?_eq_none h'] at h
def IsStrs (w : World) (a : Option Addr) (len cap : Nat) (zs : List (List UInt8)) : Prop :=
  HasStrs w (.slice a len cap) zs ∧ len = zs.length ∧ len ≤ cap ∧ cap ≤ 9223372036854775807 ∧ ∀ z ∈ zs, z.length ≤ 9223372036854775807
theorem isStrs_nil (w : World) : IsStrs w none 0 0 [] := ⟨⟨none, 0, rfl, fun j hj => by simp at hj⟩, rfl, Nat.le_refl _, by decide, by simp⟩
theorem isStrs_of {w : World} {a : Addr} {len cap : Nat} {Sx : Nat → ByteArray} (hl : len ≤ cap) (hm : cap ≤ maxLen) (h : ∀ i, i < len → w.cell? (a.add i) = some (.string (Sx i)) ∧ (Sx i).size ≤ maxLen) :
    IsStrs w (some a) len cap ((List.range len).map fun i => (Sx i).data.toList) := by
  unfold maxLen at hm
  refine ⟨⟨some a, cap, by simp, fun j hj => ?_⟩, by simp, hl, hm, fun z hz => ?_⟩
  · have hj' : j < len := by simpa using hj
    obtain ⟨b, off, spot⟩ := a
    have hspot : spot = none := by simpa [Addr.add] using World.cell?_spot (h 0 (by omega)).1
    subst hspot
    have h1 := (h j hj').1
    rw [addr_add] at h1
    refine ⟨b, off, rfl, ?_, cell_lt h1⟩
    rw [h1]
    simp [strV]
  · obtain ⟨i, hi, rfl⟩ := List.mem_map.1 hz
    have := (h i (by simpa using hi)).2
    unfold maxLen at this
    have e : (Sx i).data.toList.length = (Sx i).size := Array.length_toList
    omega

def catL (zs : List (List UInt8)) : List UInt8 := zs.flatMap frameL
theorem catL_cons (z : List UInt8) (zs : List (List UInt8)) : catL (z :: zs) = frameL z ++ catL zs := rfl
theorem catL_snoc (zs : List (List UInt8)) (z : List UInt8) : catL (zs ++ [z]) = catL zs ++ frameL z := by simp [catL]
theorem frameL_len (l : List UInt8) : (frameL l).length = (putL l.length).length + 4 + l.length := by
  rw [frameL, List.length_append, List.length_append, sumL_len]; omega
theorem frameL_le (l : List UInt8) (h : l.length ≤ 4096) : (frameL l).length ≤ 4102 := by
  rw [frameL_len]; have := putL_le l.length h; omega
theorem catL_le (zs : List (List UInt8)) (h : ∀ z ∈ zs, z.length ≤ 4096) : (catL zs).length ≤ 4102 * zs.length := by
  induction zs with
  | nil => simp [catL]
  | cons z zs ih =>
    have h1 := frameL_le z (h z (by simp))
    have h2 := ih (fun y hy => h y (by simp [hy]))
    rw [catL_cons, List.length_append, List.length_cons]
    omega
theorem take_cat (zs : List (List UInt8)) (more : List UInt8) (h : ∀ z ∈ zs, z.length ≤ 4096) : takeL zs.length (catL zs ++ more) = (zs, more, 0) := by
  induction zs with
  | nil => rfl
  | cons z zs ih =>
    have h2 := ih (fun y hy => h y (by simp [hy]))
    rw [catL_cons, List.append_assoc, List.length_cons, takeL, nextL_frame z (catL zs ++ more) (h z (by simp)), h2]
    simp
theorem all_cat (zs : List (List UInt8)) (h : ∀ z ∈ zs, z.length ≤ 4096) : allL (catL zs) = (zs, []) := by
  induction zs with
  | nil => rfl
  | cons z zs ih =>
    have h2 := ih (fun y hy => h y (by simp [hy]))
    rw [catL_cons, allL_ok (nextL_frame z (catL zs) (h z (by simp))), h2]

/-- few enough, and none too long -/
def Fit20 (zs : List (List UInt8)) : Prop := zs.length ≤ 20 ∧ ∀ z ∈ zs, z.length ≤ 4096
def FramesIs (zs : List (List UInt8)) (w : World) (e : Ending) (w' : World) : Prop :=
  ((Fit20 zs ∧ e = .returned (.tuple #[.string ⟨(catL zs).toArray⟩, .bool true])) ∨ (¬ Fit20 zs ∧ e = .returned (.tuple #[.string ⟨#[]⟩, .bool false]))) ∧ Below w.heap.size w w'
set_option maxHeartbeats 1000000 in
theorem frames_any (a : Option Addr) (len cap : Nat) (zs : List (List UInt8)) (w : World) (h : IsStrs w a len cap zs) :
    Calls Try.prog 20 #[.slice a len cap] w (FramesIs zs w) := by
  obtain ⟨⟨o, c, e, hcell⟩, hlen, hlc, hcm, hzl⟩ := h
  obtain ⟨n, hn⟩ : ∃ n, n = zs.length := ⟨_, rfl⟩
  rw [← hn] at e
  cases e
  have HL : Hid (len = zs.length) := hlen
  have hlen9 : len ≤ 9223372036854775807 := by omega
  clear hlen hn
  have HZ : Hid (∀ z ∈ zs, z.length ≤ 9223372036854775807) := hzl
  clear hzl
  go_enter Try.func20, Try.ntmps20
  go_wp2_with fail
  go_loopw [4, 11] (fun s i wr => ∃ (k : Nat), k ≤ len ∧ k ≤ 20 ∧ (∀ z ∈ zs.take k, z.length ≤ 4096) ∧ i = .int .i64 k ∧ s = .string ⟨(catL (zs.take k)).toArray⟩ ∧ Below w.heap.size w wr) (fun _ i _ => len - (intOf i).toNat)
  case atStart => exact ⟨0, by omega, by omega, by simp, rfl, rfl, Below.refl _ _⟩
  case round =>
    obtain ⟨k, hk, hk20, hgk, rfl, rfl, hB⟩ := hrel
    by_cases hlt : k < len
    · have hkz : k < zs.length := by rw [← HL.out]; exact hlt
      obtain ⟨b1, i1, rfl, q1, l1⟩ := hcell k hkz
      have r1 := ((hB.cell (p := ⟨b1, i1 + k, none⟩) l1)).trans q1
      have hzk := HZ.out zs[k] (List.getElem_mem hkz)
      have HK : Hid (zs.take (k + 1) = zs.take k ++ [zs[k]]) := List.take_succ_eq_append_getElem hkz
      have HM : Hid (zs[k] ∈ zs) := List.getElem_mem hkz
      unfold strV at r1
      obtain ⟨z, hz⟩ : ∃ z, z = zs[k] := ⟨_, rfl⟩
      rw [← hz] at r1 hzk HK HM
      clear q1 hz hcell
      have hsz := hB.size
      by_cases hl4 : z.length ≤ 4096
      · have hcat := catL_le (zs.take k) hgk
        have hfz := frameL_le z hl4
        have c1 := fun w => put_ok z w hl4
        obtain ⟨A, hA⟩ : ∃ A : ByteArray, A = ⟨(frameL z).toArray⟩ := ⟨_, rfl⟩
        obtain ⟨S, hS⟩ : ∃ S : ByteArray, S = ⟨(catL (zs.take k)).toArray⟩ := ⟨_, rfl⟩
        have hAs : A.size ≤ 4102 := by rw [hA, size_list]; exact hfz
        have hSs : S.size ≤ 100000 := by rw [hS, size_list]; have : (zs.take k).length ≤ k := by simp; omega
                                         omega
        have HE : Hid (S ++ A = ⟨(catL (zs.take (k + 1))).toArray⟩) := by show _ = _; rw [hS, hA, str_app, HK.out, catL_snoc]
        rw [← hA] at c1
        rw [← hS]
        clear hA hS
        by_cases hk2 : k = 20
        · subst hk2
          have HB : Hid (¬ Fit20 zs) := fun h => by have := h.1; rw [← HL.out] at this; omega
          go_wp2_with fail
          go_at_call 8; refine (c1 _).mono ?_; rintro e w1 ⟨rfl, hb1⟩
          go_wp2
          go_ret2
          exact ⟨.inr ⟨HB.out, rfl⟩, hB.trans (hb1.mono hsz)⟩
        · have hk3 : (k : Int) < 20 := by omega
          have HG : Hid (∀ y ∈ zs.take (k + 1), y.length ≤ 4096) := by
            intro y hy
            rw [HK.out] at hy
            rcases List.mem_append.1 hy with hy | hy
            · exact hgk y hy
            · simp at hy; rw [hy]; exact hl4
          clear hgk
          go_wp2_with fail
          go_at_call 8; refine (c1 _).mono ?_; rintro e w1 ⟨rfl, hb1⟩
          go_wp2
          go_roundw
          case rel => exact ⟨k + 1, by omega, by omega, HG.out, by go_num, by rw [HE.out], hB.trans (hb1.mono hsz)⟩
          case measure => simp [intOf]; omega
      · have c1 := fun w => put_long ⟨z.toArray⟩ w (by rw [size_list]; omega) (by rw [size_list]; omega)
        have HB : Hid (¬ Fit20 zs) := fun h => hl4 (h.2 z HM.out)
        go_wp2_with fail
        go_at_call 8; refine (c1 _).mono ?_; rintro e w1 ⟨rfl, hb1⟩
        go_wp2
        go_ret2
        exact ⟨.inr ⟨HB.out, rfl⟩, hB.trans (hb1.mono hsz)⟩
    · obtain rfl : k = len := by omega
      have ht : zs.take k = zs := List.take_of_length_le (by rw [← HL.out]; exact Nat.le_refl _)
      have HG : Hid (Fit20 zs) := ⟨by rw [← HL.out]; exact hk20, by rw [← ht]; exact hgk⟩
      rw [ht]
      clear ht hgk
      go_wp2
      go_ret2
      exact ⟨.inl ⟨HG.out, rfl⟩, hB⟩
end Go.Proofs.Ytojgmiobjfkebaa.Frame
