/- Rows of rows of numbers that came in; and spoortop.begins returns true. -/
import Derived.Test.YtmbciomfkiadiacMathBack
import Derived.Test.YtmbciomfkiadiacMathSeal
import Derived.Deep.Matrix
set_option linter.unusedVariables false
namespace Go.Proofs.Ytmbciomfkiadiac
open Go.RowKit

def IsRows (k : IntKind) (w : World) (a : Option Addr) (len : Nat) (A : Nat → Option Addr) (L C : Nat → Nat) (Z : Nat → List Int) : Prop :=
  len ≤ maxLen ∧ ∀ r, r < len → ∃ b off, a = some ⟨b, off, none⟩ ∧ b < w.heap.size ∧ w.cell? ⟨b, off + r, none⟩ = some (.slice (A r) (L r) (C r)) ∧ IsRow k w (A r) (L r) (C r) (Z r)
theorem cell_lt {w : World} {a : Addr} {v : Value} (h : w.cell? a = some v) : a.block < w.heap.size := by
  rcases Nat.lt_or_ge a.block w.heap.size with h' | h'
  · exact h'
  · simp [World.cell?, Array.getElem?_eq_none h'] at h
theorem isRows_of {k : IntKind} {w : World} {a : Addr} {len cap base : Nat} {A : Nat → Option Addr} {L C : Nat → Nat} {Z : Nat → List Int} (hl : len ≤ cap) (hm : cap ≤ maxLen)
    (h : ∀ r, r < cap → w.cell? (a.add r) = some (.slice (A r) (L r) (C r)) ∧ L r ≤ C r ∧ C r ≤ maxLen ∧ (Z r).length = C r ∧ (∀ n ∈ Z r, (Lit.int k n).wf = true) ∧ (A r = none → C r = 0) ∧
        ∀ a', A r = some a' → base ≤ a'.block ∧ ∀ c, c < C r → w.cell? (a'.add c) = some (.int k ((Z r).getD c 0))) : IsRows k w (some a) len A L C Z := by
  refine ⟨Nat.le_trans hl hm, fun r hr => ?_⟩
  obtain ⟨h1, h2, h3, h4, h5, h6, h7⟩ := h r (by omega)
  obtain ⟨b, off, spot⟩ := a
  have hspot : spot = none := by simpa [Addr.add] using World.cell?_spot (h 0 (by omega)).1
  subst hspot
  rw [addr_add] at h1
  refine ⟨b, off, rfl, cell_lt h1, h1, ?_⟩
  cases hA : A r with
  | none =>
    have := h6 hA
    exact .inl ⟨rfl, by omega, this, List.length_eq_zero_iff.1 (by omega)⟩
  | some x => exact .inr ⟨x, rfl, h2, h3, h4, fun i hi => (h7 x hA).2 i (by omega), h5⟩
theorem isRows_below {k : IntKind} {w w' : World} {a : Option Addr} {len : Nat} {A : Nat → Option Addr} {L C : Nat → Nat} {Z : Nat → List Int} (h : IsRows k w a len A L C Z) (hb : Below w.heap.size w w') : IsRows k w' a len A L C Z := by
  refine ⟨h.1, fun r hr => ?_⟩
  obtain ⟨b, off, h1, h2, h3, h4⟩ := h.2 r hr
  exact ⟨b, off, h1, by have := hb.size; omega, by rw [hb.cell (p := ⟨b, off + r, none⟩) h2]; exact h3, isRow_below h4 hb⟩

theorem bg1 (w : World) : Calls Try.prog 12 #[.string ⟨#[49, 50, 51, 52, 53, 54, 55, 56, 57]⟩] w fun e w' => e = .returned (.int .u32 3808858755) ∧ w' = w := by
  have := Crc.ofL [49, 50, 51, 52, 53, 54, 55, 56, 57] w (by decide)
  rw [show Crc.onL 0 [49, 50, 51, 52, 53, 54, 55, 56, 57] = 3808858755 by decide +kernel] at this
  exact this
theorem begins_any (w : World) :
    Calls Try.prog 4 #[] w fun e w' => e = .returned (.bool true) ∧ Below w.heap.size w w' := by
  go_enter Try.func4, Try.ntmps4
  go_wp2_with fail
  go_at_call 11; refine (g1 _).mono ?_; rintro e w1 ⟨rfl, hb1⟩
  go_wp2_with fail
  go_at_call 12; refine (bg1 _).mono ?_; rintro e w2 ⟨rfl, rfl⟩
  go_wp2_with fail
  go_at_call 13; refine (p1 _).mono ?_; rintro e w3 ⟨rfl, hb3⟩
  go_wp2_with fail
  go_ret
  exact ⟨rfl, below2 hb1 hb3⟩

/- ### one row's part of the whole -/
def okRow (ns : List Int) : Prop := ns.length ≤ 4096 ∧ (rowL ns).length + 4 ≤ 32768
def partL (ns : List Int) : List UInt8 := textL (Crc.sealL (rowL ns))
def allP (N : Nat → List Int) : Nat → List UInt8
  | 0 => []
  | k + 1 => allP N k ++ partL (N k)
theorem sealL_len (l : List UInt8) : (Crc.sealL l).length = l.length + 4 := by rw [Crc.sealL, List.length_append]; rfl
theorem partL_le (ns : List Int) (h : okRow ns) : (partL ns).length ≤ 40000 := by
  have := h.2
  rw [partL, textL, List.length_append, sealL_len]
  have := putL_le ((rowL ns).length + 4) (by omega)
  omega
theorem allP_le (N : Nat → List Int) (k : Nat) (h : ∀ j, j < k → okRow (N j)) : (allP N k).length ≤ 40000 * k := by
  induction k with
  | zero => simp [allP]
  | succ k ih =>
    rw [allP, List.length_append]
    have := ih (fun j hj => h j (by omega))
    have := partL_le (N k) (h k (by omega))
    omega
/-- what is behind the first k rows -/
def restP (N : Nat → List Int) (k : Nat) : Nat → List UInt8
  | 0 => []
  | m + 1 => partL (N k) ++ restP N (k + 1) m
theorem restP_all (N : Nat → List Int) (m : Nat) : ∀ k, allP N (k + m) = allP N k ++ restP N k m := by
  induction m with
  | zero => intro k; simp [restP]
  | succ m ih =>
    intro k
    rw [show k + (m + 1) = (k + 1) + m by omega, ih (k + 1), restP, allP, List.append_assoc]
theorem restP_le (N : Nat → List Int) (m : Nat) : ∀ k, (∀ j, k ≤ j → j < k + m → okRow (N j)) → (restP N k m).length ≤ 40000 * m := by
  induction m with
  | zero => intro k _; simp [restP]
  | succ m ih =>
    intro k h
    rw [restP, List.length_append]
    have := ih (k + 1) (fun j h1 h2 => h j (by omega) (by omega))
    have := partL_le (N k) (h k (by omega) (by omega))
    omega

/-- the three calls by which a row is put, sealed and put as a text: all well, or one of them refuses -/
theorem put_row (v : Value) (ns : List Int) (hb : ∀ n ∈ ns, 0 ≤ n ∧ n ≤ 18446744073709551615) (hm : ns.length ≤ 9223372036854775807) (a : Option Addr) (cap : Nat) (hv : v = .slice a ns.length cap) :
    ∃ (R X T : ByteArray) (y1 y2 y3 : Int), T.size ≤ 40000 ∧
      (∀ w, Reads w v ns → Calls Try.prog 5 #[v] w fun e w' => e = .returned (.tuple #[.string R, .int .i64 y1]) ∧ Below w.heap.size w w') ∧
      (∀ w, Calls Try.prog 6 #[.string R] w fun e w' => e = .returned (.tuple #[.string X, .int .i64 y2]) ∧ Below w.heap.size w w') ∧
      (∀ w, Calls Try.prog 7 #[.string X] w fun e w' => e = .returned (.tuple #[.string T, .int .i64 y3]) ∧ Below w.heap.size w w') ∧
      ((y1 != 0) = true ∨ (y1 = 0 ∧ (y2 != 0) = true) ∨ (y1 = 0 ∧ y2 = 0 ∧ (y3 != 0) = true) ∨ (y1 = 0 ∧ y2 = 0 ∧ y3 = 0 ∧ okRow ns ∧ T = ⟨(partL ns).toArray⟩)) := by
  have hsm : ∀ t : List UInt8, t.length ≤ 32768 → (⟨(textL t).toArray⟩ : ByteArray).size ≤ 40000 := fun t ht => by
    rw [size_list, textL, List.length_append]
    have := putL_le t.length (by omega)
    omega
  by_cases h1 : ns.length ≤ 4096
  · have c1 : ∀ w, Reads w v ns → Calls Try.prog 5 #[v] w fun e w' => e = .returned (.tuple #[.string ⟨(rowL ns).toArray⟩, .int .i64 0]) ∧ Below w.heap.size w w' := fun w h => by
      have ht : ns.take ns.length = ns := List.take_of_length_le (Nat.le_refl _)
      rcases h with ⟨a, cap, rfl, rfl⟩ | ⟨b, off, cap, rfl, hlt, hm, hc⟩
      · exact row_core a 0 cap [] w ⟨by simp, by simp, fun k hk => by omega⟩ (by omega)
      · have := row_core (some ⟨b, off, none⟩) ns.length cap ns w ⟨Nat.le_refl _, hb, fun k hk => ⟨b, off, rfl, hlt, hc⟩⟩ h1
        rw [ht] at this
        exact this
    by_cases h2 : (rowL ns).length ≤ 32768
    · by_cases h3 : (rowL ns).length + 4 ≤ 32768
      · have h3' : (Crc.sealL (rowL ns)).length ≤ 32768 := by rw [sealL_len]; exact h3
        exact ⟨_, _, _, 0, 0, 0, hsm _ h3', c1, fun w => Crc.sealed_any (rowL ns) w h2, fun w => text_any (Crc.sealL (rowL ns)) w h3', .inr (.inr (.inr ⟨rfl, rfl, rfl, ⟨h1, h3⟩, rfl⟩))⟩
      · exact ⟨_, _, ⟨#[]⟩, 0, 0, 11, by decide, c1, fun w => Crc.sealed_any (rowL ns) w h2, fun w => text_long _ w (by rw [size_list, sealL_len]; omega) (by rw [size_list, sealL_len]; omega), .inr (.inr (.inl ⟨rfl, rfl, by decide⟩))⟩
    · have h4 := allL_le ns hb
      have h5 := putL_le ns.length (by omega)
      exact ⟨_, ⟨(([] : List UInt8)).toArray⟩, _, 0, 11, 0, hsm [] (by simp), c1, fun w => Crc.sealed_long _ w (by rw [size_list]; omega) (by rw [size_list, rowL, List.length_append]; omega), fun w => text_any [] w (by simp), .inr (.inl ⟨rfl, by decide⟩)⟩
  · refine ⟨⟨(([] : List UInt8)).toArray⟩, _, _, 11, 0, 0, hsm (Crc.sealL []) (by rw [sealL_len]; simp), fun w _ => ?_, fun w => Crc.sealed_any [] w (by simp), fun w => text_any (Crc.sealL []) w (by rw [sealL_len]; simp), .inl (by decide)⟩
    rw [hv]
    exact row_long a ns.length cap w (by omega) hm

/- ### one byte of a sealed text turned -/
theorem open_turned (s : List UInt8) (i : Nat) (hi : i < (Crc.sealL s).length) (y : UInt8) (hy : y ≠ (Crc.sealL s)[i]) : Crc.openL ((Crc.sealL s).set i y) = ([], 6) := by
  by_cases h : i < s.length
  · have e : (Crc.sealL s).set i y = s.set i y ++ Crc.textR (Crc.onL 0 s) := by rw [Crc.sealL, List.set_append_left _ _ h]
    have hg : (Crc.sealL s)[i] = s[i] := by simp [Crc.sealL, List.getElem_append_left h]
    rw [e, Crc.open_app _ _ rfl, if_neg]
    intro h0
    have h1 := Crc.text_inj _ _ (Crc.sum_lt _) (Crc.sum_lt _) h0
    obtain ⟨e1, e2⟩ := Crc.set_parts s i h y
    rw [e2] at h1
    conv at h1 => lhs; rw [e1]
    have := Crc.sum_turned _ _ _ _ h1
    exact hy (by rw [hg]; exact this.symm)
  · have hlen := sealL_len s
    have e : (Crc.sealL s).set i y = s ++ (Crc.textR (Crc.onL 0 s)).set (i - s.length) y := by rw [Crc.sealL, List.set_append_right _ _ (by omega)]
    rw [e, Crc.open_app _ _ (by rw [List.length_set]; rfl), if_neg]
    intro h0
    apply hy
    have hi2 : i - s.length < (Crc.textR (Crc.onL 0 s)).length := by rw [Crc.textR_len]; omega
    have hg : (Crc.sealL s)[i] = (Crc.textR (Crc.onL 0 s))[i - s.length] := by simp [Crc.sealL, List.getElem_append_right (by omega : s.length ≤ i)]
    rw [hg]
    have h3 : ((Crc.textR (Crc.onL 0 s)).set (i - s.length) y)[i - s.length]? = some y := by rw [List.getElem?_set_self hi2]
    rw [h0, List.getElem?_eq_getElem hi2] at h3
    exact (Option.some.inj h3).symm
end Go.Proofs.Ytmbciomfkiadiac
