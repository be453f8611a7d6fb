/- Plain mathematics: sums of texts put together are the sums joined; a sum's bytes are read as it; what is sealed is opened as it was. -/
import Derived.Test.YtmbciomfkiadiabWalkLives
set_option linter.unusedVariables false
namespace Go.Proofs.Ytmbciomfkiadiab
open Go.RowKit

theorem regL_zero (X : Nat) (l : List UInt8) : regL X l = hvN (8 * l.length) X ^^^ regL 0 l := by
  have := regL_affine l X 0
  rwa [Nat.xor_zero] at this
theorem xor_mid (a o b : Nat) : (a ^^^ o) ^^^ ((o ^^^ b) ^^^ 4294967295) = (a ^^^ b) ^^^ 4294967295 := by
  rw [← Nat.xor_assoc (a ^^^ o), Nat.xor_assoc a o, ← Nat.xor_assoc o o b, Nat.xor_self, Nat.zero_xor]
theorem join_app (a b : List UInt8) : joinR (onL 0 a) (onL 0 b) b.length = onL 0 (a ++ b) := by
  unfold joinR onL
  rw [regL_app, regL_zero (notR 0) b, regL_zero (regL (notR 0) a) b]
  rw [notR.eq_1 (regL (notR 0) a), hvN_xor, notR.eq_1 (_ ^^^ regL 0 b), notR.eq_1 (_ ^^^ regL 0 b)]
  have h0 : notR 0 = 4294967295 := by unfold notR; rw [Nat.zero_xor]
  rw [h0]
  exact xor_mid _ _ _
theorem on_app (s : Nat) (a b : List UInt8) : onL (onL s a) b = onL s (a ++ b) := by
  unfold onL
  rw [notR_notR, regL_app]

/-- any count: joined, or refused -/
def joinV (a b m : Nat) : Nat × Int := if m ≤ 1073741824 then (joinR a b m, 0) else (0, 1)
theorem joinV_lt (a b m : Nat) (ha : a < 4294967296) (hb : b < 4294967296) : (joinV a b m).1 < 4294967296 := by
  unfold joinV; split
  · exact joinR_lt a b m ha hb
  · decide
theorem joinV_small (a b m : Nat) (h : m ≤ 1073741824) : joinV a b m = (joinR a b m, 0) := if_pos h
theorem join_gen (a b m : Nat) (w : World) (ha : a < 4294967296) (hb : b < 4294967296) (hm : (m : Int) ≤ 9223372036854775807) :
    Calls Try.prog 16 #[.int .u32 (a : Int), .int .u32 (b : Int), .int .i64 (m : Int)] w fun e w' => e = .returned (.tuple #[.int .u32 ((joinV a b m).1 : Int), .int .i64 (joinV a b m).2]) ∧ w' = w := by
  by_cases h : m ≤ 1073741824
  · rw [joinV_small a b m h]
    exact join_any a b m w ha hb (by omega)
  · have := join_no (a : Int) (b : Int) (m : Int) w (by omega) hm (by omega)
    rw [show joinV a b m = (0, 1) from if_neg h]
    exact this

theorem be4_text (n : Nat) (h : n < 4294967296) : be4 (UInt8.ofNat (n / 16777216)) (UInt8.ofNat (n / 65536)) (UInt8.ofNat (n / 256)) (UInt8.ofNat n) = n := by
  unfold be4
  simp only [UInt8.toNat_ofNat']
  omega
theorem read_text (n : Nat) (h : n < 4294967296) (more : List UInt8) : readL (textR n ++ more) = (n, more, 0) := by
  show (be4 _ _ _ _, more, 0) = _
  rw [be4_text n h]
theorem text_inj (a b : Nat) (ha : a < 4294967296) (hb : b < 4294967296) (h : textR a = textR b) : a = b := by
  have h1 := read_text a ha []
  have h2 := read_text b hb []
  rw [h, h2] at h1
  exact (congrArg Prod.fst h1).symm
theorem open_app (l : List UInt8) (x : List UInt8) (hx : x.length = 4) : openL (l ++ x) = if x = textR (onL 0 l) then (l, 0) else ([], 6) := by
  have h1 : (l ++ x).length - 4 = l.length := by rw [List.length_append]; omega
  unfold openL
  rw [if_pos (by rw [List.length_append]; omega), h1, List.drop_left, List.take_left]
theorem open_seal (l : List UInt8) : openL (sealL l) = (l, 0) := by
  unfold sealL
  rw [open_app l _ rfl, if_pos rfl]
theorem seal_open {l t : List UInt8} (h : openL l = (t, 0)) : sealL t = l := by
  unfold openL at h
  split at h
  · split at h
    · rename_i h1 h2
      cases h
      unfold sealL
      rw [← h2, List.take_append_drop]
    · cases h
  · cases h
theorem open_none {l t : List UInt8} {e : Int} (h : openL l = (t, e)) (he : e ≠ 0) : t = [] := by
  unfold openL at h
  split at h
  · split at h
    · cases h; exact absurd rfl he
    · cases h; rfl
  · cases h; rfl
theorem open_len {l t : List UInt8} {e : Int} (h : openL l = (t, e)) : t.length ≤ l.length := by
  unfold openL at h
  split at h
  · split at h
    · cases h; rw [List.length_take]; omega
    · cases h; simp
  · cases h; simp
end Go.Proofs.Ytmbciomfkiadiab
