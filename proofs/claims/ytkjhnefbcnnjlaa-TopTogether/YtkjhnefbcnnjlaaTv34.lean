/- spoortop.begins returns true. -/
import Derived.WalkKit
import Derived.Laws.BitsLemmas
import Derived.Test.YtkjhnefbcnnjlaaShelf
import Derived.WalkSmall
import Derived.Laws.IdiomStrings
import Derived.RegionTactic
import Derived.BigRegion
import Derived.ChangeAlike
import Derived.BigQuiet
import Derived.Deep.QuietTactic
import Derived.Handy
import Derived.Test.YtkjhnefbcnnjlaaTv04
import Derived.Deep.RegionWith
set_option linter.unusedVariables false
namespace Go.Proofs.Ytkjhnefbcnnjlaa.Crc
open Go.RowKit

/-- one of a byte's eight steps -/
def hv (r : Nat) : Nat := (r / 2) ^^^ (2197175160 * (r % 2))
theorem hv_lt (r : Nat) (h : r < 4294967296) : hv r < 4294967296 := by
  unfold hv
  apply Nat.xor_lt_two_pow (n := 32)
  · omega
  · have : r % 2 = 0 ∨ r % 2 = 1 := by omega
    rcases this with h | h <;> rw [h] <;> decide
def hvN : Nat → Nat → Nat
  | 0, r => r
  | k + 1, r => hvN k (hv r)
theorem hvN_lt (k r : Nat) (h : r < 4294967296) : hvN k r < 4294967296 := by
  induction k generalizing r with
  | zero => exact h
  | succ k ih => exact ih _ (hv_lt r h)
/-- a text's bytes into the register -/
def regL (r : Nat) : List UInt8 → Nat
  | [] => r
  | b :: l => regL (hvN 8 (r ^^^ b.toNat)) l
theorem regL_lt (l : List UInt8) : ∀ r, r < 4294967296 → regL r l < 4294967296 := by
  induction l with
  | nil => intro r h; exact h
  | cons x l ih =>
    intro r h
    refine ih _ (hvN_lt 8 _ ?_)
    have := x.toNat_lt
    exact Nat.xor_lt_two_pow (n := 32) h (by omega)
def notR (r : Nat) : Nat := r ^^^ 4294967295
theorem notR_lt (r : Nat) (h : r < 4294967296) : notR r < 4294967296 := Nat.xor_lt_two_pow (n := 32) h (by decide)
def onL (sum : Nat) (l : List UInt8) : Nat := notR (regL (notR sum) l)
theorem onL_lt (sum : Nat) (l : List UInt8) (h : sum < 4294967296) : onL sum l < 4294967296 := notR_lt _ (regL_lt _ _ (notR_lt _ h))

/- ### the register's bits, as the program reckons them -/
theorem wraps32 (n : Int) (h₀ : 0 ≤ n) (h₁ : n < 2 ^ 32) : IntKind.u32.wrap n = n := by rw [IntKind.wrap_u32]; omega
theorem xor_u32 (a b : Nat) (ha : a < 4294967296) (hb : b < 4294967296) : bits BinOp.xor IntKind.u32 (a : Int) (b : Int) = ((a ^^^ b : Nat) : Int) := by
  have ha' : a % 2 ^ IntKind.u32.bits = a := Nat.mod_eq_of_lt (by simpa [IntKind.bits] using ha)
  have hb' : b % 2 ^ IntKind.u32.bits = b := Nat.mod_eq_of_lt (by simpa [IntKind.bits] using hb)
  simp only [bits, BitVec.ofInt_natCast, BitVec.toNat_xor, BitVec.toNat_ofNat, ha', hb']
  refine wraps32 _ (Int.natCast_nonneg _) ?_
  have := Nat.xor_lt_two_pow (n := 32) ha hb
  exact_mod_cast this
theorem and_u32 (a b : Nat) (ha : a < 4294967296) (hb : b < 4294967296) : bits BinOp.and IntKind.u32 (a : Int) (b : Int) = ((a &&& b : Nat) : Int) :=
  (bits_nat .u32 32 (by decide) wraps32 a b ha hb).1
theorem and_one_u32 (r : Nat) (h : r < 4294967296) : bits BinOp.and IntKind.u32 (r : Int) 1 = ((r % 2 : Nat) : Int) := by
  have := and_u32 r 1 h (by decide)
  rw [Nat.and_one_is_mod] at this
  exact this
theorem hv_bits (r : Nat) (h : r < 4294967296) : bits BinOp.xor IntKind.u32 ((r : Int) / 2) (IntKind.u32.wrap (2197175160 * bits BinOp.and IntKind.u32 (r : Int) 1)) = (hv r : Int) := by
  rw [and_one_u32 r h, IntKind.wrap_u32]
  have e1 : (r : Int) / 2 = ((r / 2 : Nat) : Int) := by omega
  have e2 : 2197175160 * ((r % 2 : Nat) : Int) % 4294967296 = ((2197175160 * (r % 2) : Nat) : Int) := by omega
  rw [e1, e2, xor_u32 _ _ (by omega) (by omega)]
  rfl
theorem not_u32 (r : Nat) (h : r < 4294967296) : bits BinOp.xor IntKind.u32 IntKind.u32.max (r : Int) = (notR r : Int) := by
  have e : IntKind.u32.max = ((4294967295 : Nat) : Int) := by decide
  rw [e, xor_u32 _ _ (by decide) h, Nat.xor_comm]
  rfl
end Go.Proofs.Ytkjhnefbcnnjlaa.Crc
namespace Go.Proofs.Ytkjhnefbcnnjlaa.Crc
open Go.RowKit
theorem ret_int {k : IntKind} {a b : Int} (h : a = b) : Ending.returned (.int k a) = .returned (.int k b) := by rw [h]
theorem below2 {a b c : World} (h1 : Below a.heap.size a b) (h2 : Below b.heap.size b c) : Below a.heap.size a c := h1.trans (h2.mono h1.size)

theorem halved_any (r : Nat) (w : World) (h : r < 4294967296) :
    Calls Try.prog 49 #[.int .u32 (r : Int)] w fun e w' => e = .returned (.int .u32 (hv r : Int)) ∧ w' = w := by
  have hi : (r : Int) < 4294967296 := by omega
  go_enter Try.func49, Try.ntmps49
  go_wp2
  go_ret
  exact ⟨ret_int (hv_bits r h), rfl⟩

theorem drop_cons (s : ByteArray) (k : Nat) (h : k < s.size) : s.data.toList.drop k = s[k] :: s.data.toList.drop (k + 1) := by
  rw [List.drop_eq_getElem_cons (by simpa using h)]; rfl

set_option maxRecDepth 20000 in
theorem on_any (sum : Nat) (s : ByteArray) (w : World) (h : sum < 4294967296) (hs : s.size ≤ 9223372036854775807) :
    Calls Try.prog 25 #[.int .u32 (sum : Int), .string s] w fun e w' => e = .returned (.int .u32 (onL sum s.data.toList : Int)) ∧ w' = w := by
  have hi : (sum : Int) ≤ 4294967295 := by omega
  have HS : Hid (sum < 4294967296) := h
  clear h
  go_enter Try.func25, Try.ntmps25
  have e0 := not_u32 sum HS.out
  obtain ⟨N, hN⟩ : ∃ N, N = notR sum := ⟨_, rfl⟩
  rw [← hN] at e0
  have HN : Hid (N < 4294967296 ∧ N = notR sum) := ⟨by rw [hN]; exact notR_lt _ HS.out, hN⟩
  clear hN
  go_wp2
  go_loop [5, 11] (fun t i => ∃ j R : Nat, j ≤ s.size ∧ Hid (R < 4294967296) ∧ i = .int .i64 j ∧ t = .int .u32 (R : Int) ∧ Hid (regL N s.data.toList = regL R (s.data.toList.drop j))) (fun _ i => s.size - (intOf i).toNat)
  case atStart => exact ⟨0, N, by omega, HN.out.1, rfl, rfl, (rfl : regL N s.data.toList = _)⟩
  case round =>
    obtain ⟨j, R, hj, HR, rfl, rfl, HG⟩ := hrel
    have hRi : (R : Int) ≤ 4294967295 := by have := HR.out; omega
    by_cases hlt : j < s.size
    · have HD : Hid (s.data.toList.drop j = s[j] :: s.data.toList.drop (j + 1)) := drop_cons s j hlt
      have hbl := (s[j]).toNat_lt
      obtain ⟨X, hX⟩ : ∃ X, X = R ^^^ (s[j]).toNat := ⟨_, rfl⟩
      have e1 := xor_u32 R (s[j]).toNat HR.out (by omega)
      rw [← hX] at e1
      have HX : Hid (X < 4294967296 ∧ X = R ^^^ (s[j]).toNat) := ⟨by rw [hX]; exact Nat.xor_lt_two_pow (n := 32) HR.out (by omega), hX⟩
      have hbi : ((s[j]).toNat : Int) ≤ 255 := by omega
      clear hX hbl
      go_wp2
      go_loop [5, 20] (fun t i => ∃ k Q : Nat, k ≤ 8 ∧ Hid (Q < 4294967296) ∧ i = .int .i64 k ∧ t = .int .u32 (Q : Int) ∧ Hid (hvN 8 X = hvN (8 - k) Q)) (fun _ i => 8 - (intOf i).toNat)
      case atStart => exact ⟨0, X, by omega, HX.out.1, rfl, rfl, (rfl : hvN 8 X = _)⟩
      case round =>
        obtain ⟨k, Q, hk, HQ, rfl, rfl, HE⟩ := hrel
        have hQi : (Q : Int) ≤ 4294967295 := by have := HQ.out; omega
        by_cases hlt2 : k < 8
        · have HE' : Hid (hvN 8 X = hvN (8 - (k + 1)) (hv Q)) := by
            show _ = _
            rw [HE.out, show 8 - k = 8 - (k + 1) + 1 by omega]; rfl
          have hc := fun w => halved_any Q w HQ.out
          go_wp2_with (go_at_call 49; refine (hc _).mono ?_; rintro e w' ⟨rfl, rfl⟩)
          go_round
          case rel => exact ⟨k + 1, hv Q, by omega, hv_lt Q HQ.out, by go_num, rfl, HE'⟩
          case measure => simp [intOf]; omega
        · obtain rfl : k = 8 := by omega
          go_wp2
          go_round
          case rel =>
            refine ⟨j + 1, Q, by omega, HQ, by go_num, rfl, ?_⟩
            show _ = _
            have h8 : hvN 8 X = Q := HE.out
            rw [HG.out, HD.out, regL, ← HX.out.2, h8]
          case measure => simp [intOf]; omega
    · have e2 := not_u32 R HR.out
      go_wp2
      go_ret
      refine ⟨ret_int ?_, rfl⟩
      have : s.data.toList.drop j = [] := List.drop_of_length_le (by simp; omega)
      have hE := HG.out
      rw [this] at hE
      rw [onL, ← HN.out.2, hE]
      rfl
theorem of_any (s : ByteArray) (w : World) (hs : s.size ≤ 9223372036854775807) :
    Calls Try.prog 11 #[.string s] w fun e w' => e = .returned (.int .u32 (onL 0 s.data.toList : Int)) ∧ w' = w := by
  have hc := fun w => on_any 0 s w (by decide) hs
  go_enter Try.func11, Try.ntmps11
  go_wp2_with fail
  go_at_call 25; refine (hc _).mono ?_; rintro e w' ⟨rfl, rfl⟩
  go_wp2
  go_ret
  exact ⟨rfl, rfl⟩

end Go.Proofs.Ytkjhnefbcnnjlaa.Crc
namespace Go.Proofs.Ytkjhnefbcnnjlaa.Crc
open Go.RowKit

/-- a sum's bytes, the highest one first -/
def textR (n : Nat) : List UInt8 := [UInt8.ofNat (n / 16777216), UInt8.ofNat (n / 65536), UInt8.ofNat (n / 256), UInt8.ofNat n]
theorem addr_add (b o j : Nat) : (⟨b, o, none⟩ : Addr).add j = ⟨b, o + j, none⟩ := by unfold Addr.add; split <;> simp_all
theorem text_cells (n : Nat) (h : n < 4294967296) (w : World) (T : TypeId) :
    (convert 80 9 (.slice (some ⟨w.heap.size, 0, none⟩) 4 4)).run Try.prog (w.alloc (.cells #[Value.int .u8 ((n : Int) / 16777216), .int .u8 ((n : Int) / 65536 % 256), .int .u8 ((n : Int) / 256 % 256), .int .u8 ((n : Int) % 256)] T)) =
      .ok (.string ⟨(textR n).toArray⟩) (w.alloc (.cells #[Value.int .u8 ((n : Int) / 16777216), .int .u8 ((n : Int) / 65536 % 256), .int .u8 ((n : Int) / 256 % 256), .int .u8 ((n : Int) % 256)] T)) :=
  run_convert_bytes_back (P := Try.prog) _ 80 9 5 ⟨w.heap.size, 0, none⟩ 4 (textR n) Try.underlying80 Try.underlying5 Try.underlying9 (fun j hj => by
    rw [addr_add, Nat.zero_add, World.cell?_alloc_at _ _ _ _ rfl]
    match j, hj with
    | 0, _ => simp [textR]; omega
    | 1, _ => simp [textR]
    | 2, _ => simp [textR]
    | 3, _ => simp [textR])
theorem size_list (l : List UInt8) : (⟨l.toArray⟩ : ByteArray).size = l.length := by show l.toArray.size = _; simp
theorem str_app (a b : List UInt8) : (⟨a.toArray⟩ ++ ⟨b.toArray⟩ : ByteArray) = ⟨(a ++ b).toArray⟩ := by
  apply ByteArray.ext
  rw [ByteArray.data_append]
  simp
theorem extract_drop (s : ByteArray) (k : Nat) : s.extract k s.size = ⟨(s.data.toList.drop k).toArray⟩ := by
  apply ByteArray.ext
  rw [ByteArray.data_extract]
  apply Array.ext'
  simp [List.take_of_length_le]
theorem clone_any (s : ByteArray) (w : World) (hs : s.size ≤ 281474976710656) :
    Calls Try.prog 24 #[.string s] w fun e w' => e = .returned (.string s) ∧ Below w.heap.size w w' := by
  go_enter Try.func24, Try.ntmps24
  go_wp2_with (go_at_call 48; refine (Try.stringslite_Clone s _ hs).mono ?_; rintro e w1 ⟨rfl, hb⟩)
  go_ret
  exact ⟨rfl, hb⟩

theorem or_low (a : Int) (b : Int) (ha : 0 ≤ a) (ha1 : a < 16777216) (hb : 0 ≤ b) (hb1 : b ≤ 255) : bits BinOp.or IntKind.u32 (a * 256) b = a * 256 + b :=
  bits_join .u32 32 (by decide) wraps32 8 (a * 256) b (by omega) (by omega) (by omega) hb (by omega) (by omega)
theorem or3 (a b c d : Nat) (ha : (a : Int) ≤ 255) (hb : (b : Int) ≤ 255) (hc : (c : Int) ≤ 255) (hd : (d : Int) ≤ 255) : bits BinOp.or IntKind.u32 ((((a : Int) * 256 + (b : Int)) * 256 + (c : Int)) * 256) (d : Int) = (((a : Int) * 256 + (b : Int)) * 256 + (c : Int)) * 256 + (d : Int) :=
  or_low _ _ (by omega) (by omega) (by omega) hd
end Go.Proofs.Ytkjhnefbcnnjlaa.Crc
namespace Go.Proofs.Ytkjhnefbcnnjlaa.Frame

def sumL (l : List UInt8) : List UInt8 := Crc.textR (Crc.onL 0 l)
theorem sumL_len (l : List UInt8) : (sumL l).length = 4 := rfl
def frameL (l : List UInt8) : List UInt8 := putL l.length ++ (sumL l ++ l)

/-- the first frame: its payload, what is behind, the error -/
def bodyL (n : Nat) (r : List UInt8) : List UInt8 × List UInt8 × Int :=
  if n ≤ 4096 then (if n + 4 ≤ r.length then (if r.take 4 = sumL ((r.drop 4).take n) then ((r.drop 4).take n, r.drop (n + 4), 0) else ([], [], 6)) else ([], [], 5)) else ([], [], 7)
def nextL (l : List UInt8) : List UInt8 × List UInt8 × Int :=
  if (getGo 0 0 l).2.2 = 0 then bodyL (getGo 0 0 l).1 (getGo 0 0 l).2.1 else ([], [], (getGo 0 0 l).2.2)
theorem nextL_err {l : List UInt8} {n : Nat} {r : List UInt8} {e : Int} (h : getGo 0 0 l = (n, r, e)) (he : e ≠ 0) : nextL l = ([], [], e) := by
  rw [nextL, h]; exact if_neg he
theorem nextL_body {l : List UInt8} {n : Nat} {r : List UInt8} (h : getGo 0 0 l = (n, r, 0)) : nextL l = bodyL n r := by
  rw [nextL, h]; rfl
theorem nextL_many {l : List UInt8} {n : Nat} {r : List UInt8} (h : getGo 0 0 l = (n, r, 0)) (hn : ¬ n ≤ 4096) : nextL l = ([], [], 7) := by
  rw [nextL_body h, bodyL, if_neg hn]
theorem nextL_short {l : List UInt8} {n : Nat} {r : List UInt8} (h : getGo 0 0 l = (n, r, 0)) (hn : n ≤ 4096) (hr : ¬ n + 4 ≤ r.length) : nextL l = ([], [], 5) := by
  rw [nextL_body h, bodyL, if_pos hn, if_neg hr]
theorem nextL_sum {l : List UInt8} {n : Nat} {r : List UInt8} (h : getGo 0 0 l = (n, r, 0)) (hn : n ≤ 4096) (hr : n + 4 ≤ r.length) (hs : r.take 4 ≠ sumL ((r.drop 4).take n)) : nextL l = ([], [], 6) := by
  rw [nextL_body h, bodyL, if_pos hn, if_pos hr, if_neg hs]
theorem nextL_ok {l : List UInt8} {n : Nat} {r : List UInt8} (h : getGo 0 0 l = (n, r, 0)) (hn : n ≤ 4096) (hr : n + 4 ≤ r.length) (hs : r.take 4 = sumL ((r.drop 4).take n)) : nextL l = ((r.drop 4).take n, r.drop (n + 4), 0) := by
  rw [nextL_body h, bodyL, if_pos hn, if_pos hr, if_pos hs]

/-- what is read is less than what was there -/
theorem getGo_split (l : List UInt8) : ∀ i acc n r, getGo i acc l = (n, r, 0) → ∃ c, c ≠ [] ∧ l = c ++ r := by
  induction l with
  | nil => intro i acc n r h; cases h
  | cons b l ih =>
    intro i acc n r h
    rw [getGo] at h
    split at h
    · cases h
    · split at h
      · obtain ⟨c, _, e⟩ := ih _ _ _ _ h; exact ⟨b :: c, by simp, by rw [e]; rfl⟩
      · split at h
        · cases h
        · cases h; exact ⟨[b], by simp, rfl⟩
/-- what is read is taken apart -/
theorem nextL_inv {l p r : List UInt8} (h : nextL l = (p, r, 0)) : ∃ c, c ≠ [] ∧ l = c ++ (sumL p ++ (p ++ r)) ∧ getGo 0 0 l = (p.length, sumL p ++ (p ++ r), 0) ∧ p.length ≤ 4096 := by
  obtain ⟨⟨n, q, e⟩, hg⟩ : ∃ g, getGo 0 0 l = g := ⟨_, rfl⟩
  by_cases he : e = 0
  · subst he
    by_cases hn : n ≤ 4096
    · by_cases hr : n + 4 ≤ q.length
      · by_cases hs : q.take 4 = sumL ((q.drop 4).take n)
        · rw [nextL_ok hg hn hr hs] at h
          injection h with h1 h2; injection h2 with h2 _
          obtain ⟨c, hc, e⟩ := getGo_split l _ _ _ _ hg
          have hpl : p.length = n := by rw [← h1, List.length_take, List.length_drop]; omega
          have hq : q = sumL p ++ (p ++ r) := by
            rw [← h1, ← hs, ← h2]
            conv => lhs; rw [← List.take_append_drop 4 q]
            congr 1
            conv => lhs; rw [← List.take_append_drop n (q.drop 4)]
            rw [List.drop_drop, Nat.add_comm]
          refine ⟨c, hc, by rw [e, hq], ?_, by omega⟩
          rw [hg, hpl, hq]
        · rw [nextL_sum hg hn hr hs] at h; cases h
      · rw [nextL_short hg hn hr] at h; cases h
    · rw [nextL_many hg hn] at h; cases h
  · rw [nextL_err hg he] at h; cases h; exact absurd rfl he
theorem nextL_lt {l p r : List UInt8} (h : nextL l = (p, r, 0)) : r.length + p.length + 5 ≤ l.length ∧ r.length < l.length := by
  obtain ⟨c, hc, e, _, _⟩ := nextL_inv h
  have : 0 < c.length := List.length_pos_iff.2 hc
  have hs := sumL_len p
  rw [e]
  simp only [List.length_append]
  omega
/-- all of them: the payloads, what is left -/
def allF : Nat → List UInt8 → List (List UInt8) × List UInt8
  | 0, l => ([], l)
  | f + 1, l => if (nextL l).2.2 = 0 then ((nextL l).1 :: (allF f (nextL l).2.1).1, (allF f (nextL l).2.1).2) else ([], l)
theorem allF_fuel (f : Nat) : ∀ g l, l.length ≤ f → l.length ≤ g → allF f l = allF g l := by
  induction f with
  | zero =>
    intro g l h1 h2
    obtain rfl : l = [] := List.length_eq_zero_iff.1 (by omega)
    cases g with
    | zero => rfl
    | succ g => rw [allF, allF, if_neg (by decide)]
  | succ f ih =>
    intro g l h1 h2
    cases g with
    | zero =>
      obtain rfl : l = [] := List.length_eq_zero_iff.1 (by omega)
      rw [allF, allF, if_neg (by decide)]
    | succ g =>
      rw [allF, allF]
      by_cases h : (nextL l).2.2 = 0
      · have hl := (nextL_lt (l := l) (p := (nextL l).1) (r := (nextL l).2.1) (by rw [← h])).2
        rw [if_pos h, if_pos h, ih g _ (by omega) (by omega)]
      · rw [if_neg h, if_neg h]
def allL (l : List UInt8) : List (List UInt8) × List UInt8 := allF l.length l
theorem allL_ok {l p r : List UInt8} (h : nextL l = (p, r, 0)) : allL l = (p :: (allL r).1, (allL r).2) := by
  have hl := (nextL_lt h).2
  rw [allL, allF_fuel l.length (l.length + 1) l (by omega) (by omega), allF, h, if_pos rfl, allL, allF_fuel l.length r.length r (by omega) (by omega)]
theorem allL_bad {l p r : List UInt8} {y : Int} (h : nextL l = (p, r, y)) (hy : y ≠ 0) : allL l = ([], l) := by
  rw [allL, allF_fuel l.length (l.length + 1) l (by omega) (by omega), allF, h, if_neg hy]
theorem allL_le (n : Nat) : ∀ l : List UInt8, l.length ≤ n → (allL l).2.length ≤ l.length ∧ (allL l).1.length ≤ l.length := by
  induction n with
  | zero =>
    intro l h
    obtain rfl : l = [] := List.length_eq_zero_iff.1 (by omega)
    exact ⟨by decide, by decide⟩
  | succ n ih =>
    intro l h
    obtain ⟨⟨p, r, y⟩, hn⟩ : ∃ g, nextL l = g := ⟨_, rfl⟩
    by_cases hy : y = 0
    · subst hy
      have hl := (nextL_lt hn).2
      have := ih r (by omega)
      rw [allL_ok hn]
      simp only [List.length_cons]
      omega
    · rw [allL_bad hn hy]; simp

end Go.Proofs.Ytkjhnefbcnnjlaa.Frame
namespace Go.Proofs.Ytkjhnefbcnnjlaa.Frame
open Go.RowKit

theorem ret_strs {a b : ByteArray} {y : Int} (h : a = b) : Ending.returned (.tuple #[.string a, .int .i64 y]) = .returned (.tuple #[.string b, .int .i64 y]) := by rw [h]
theorem below2 {a b c : World} (h1 : Below a.heap.size a b) (h2 : Below b.heap.size b c) : Below a.heap.size a c := h1.trans (h2.mono h1.size)
theorem size_list (l : List UInt8) : (⟨l.toArray⟩ : ByteArray).size = l.length := by show l.toArray.size = _; simp
theorem str_app (a b : List UInt8) : (⟨a.toArray⟩ ++ ⟨b.toArray⟩ : ByteArray) = ⟨(a ++ b).toArray⟩ := Crc.str_app a b
theorem extract_drop (s : ByteArray) (k : Nat) : s.extract k s.size = ⟨(s.data.toList.drop k).toArray⟩ := Crc.extract_drop s k
theorem sum_lt (l : List UInt8) : Crc.onL 0 l < 4294967296 := Crc.onL_lt 0 l (by decide)
theorem putL_le (n : Nat) (h : n ≤ 4096) : (putL n).length ≤ 2 := by
  by_cases h1 : n < 128
  · rw [putL_small n h1]; simp
  · rw [putL_big n h1, putL_small _ (by omega)]; simp
theorem ofL (l : List UInt8) (w : World) (hl : l.length ≤ 9223372036854775807) :
    Calls Try.prog 11 #[.string ⟨l.toArray⟩] w fun e w' => e = .returned (.int .u32 (Crc.onL 0 l : Int)) ∧ w' = w := by
  have := Crc.of_any ⟨l.toArray⟩ w (by rw [size_list]; exact hl)
  simpa using this
theorem cloneL (l : List UInt8) (hl : l.length ≤ 281474976710656) (w : World) :
    Calls Try.prog 24 #[.string ⟨l.toArray⟩] w fun e w' => e = .returned (.string ⟨l.toArray⟩) ∧ Below w.heap.size w w' := clone_any _ w (by rw [size_list]; exact hl)
theorem getL {l : List UInt8} {n : Nat} {r : List UInt8} {y : Int} (h : getGo 0 0 l = (n, r, y)) (hl : l.length ≤ 281474976710656) (w : World) :
    Calls Try.prog 10 #[.string ⟨l.toArray⟩] w fun e w' => e = .returned (.tuple #[.int .u64 n, .string ⟨r.toArray⟩, .int .i64 y]) ∧ Below w.heap.size w w' := by
  have := get_any ⟨l.toArray⟩ w (by rw [size_list]; exact hl)
  rw [show getS ⟨l.toArray⟩ = getGo 0 0 l by simp [getS], h] at this
  exact this
end Go.Proofs.Ytkjhnefbcnnjlaa.Frame
namespace Go.Proofs.Ytkjhnefbcnnjlaa.Frame
open Go.RowKit

theorem bgn1 (w : World) : Calls Try.prog 11 #[.string ⟨#[49, 50, 51, 52, 53, 54, 55, 56, 57]⟩] w fun e w' => e = .returned (.int .u32 3808858755) ∧ w' = w := by
  have := ofL [49, 50, 51, 52, 53, 54, 55, 56, 57] w (by decide)
  rw [show Crc.onL 0 [49, 50, 51, 52, 53, 54, 55, 56, 57] = 3808858755 by decide +kernel] at this
  exact this
theorem bgn2 (w : World) : Calls Try.prog 10 #[.string ⟨#[172, 2, 122]⟩] w fun e w' => e = .returned (.tuple #[.int .u64 300, .string ⟨#[122]⟩, .int .i64 0]) ∧ Below w.heap.size w w' :=
  getL (l := [172, 2, 122]) (n := 300) (r := [122]) (y := 0) (by decide +kernel) (by decide) w
theorem bgn3 (w : World) : Calls Try.prog 12 #[.int .u64 300] w fun e w' => e = .returned (.string ⟨#[172, 2]⟩) ∧ Below w.heap.size w w' := by
  have := put_any 300 w (by decide) (by decide)
  rw [show putL (300 : Int).toNat = [172, 2] by decide +kernel] at this
  exact this
theorem begins_any (w : World) :
    Calls Try.prog 4 #[] w fun e w' => e = .returned (.bool true) ∧ Below w.heap.size w w' := by
  go_enter Try.func4, Try.ntmps4
  go_wp2_with fail
  go_at_call 10; refine (bgn2 _).mono ?_; rintro e w1 ⟨rfl, hb1⟩
  go_wp2_with fail
  go_at_call 11; refine (bgn1 _).mono ?_; rintro e w2 ⟨rfl, rfl⟩
  go_wp2_with fail
  go_at_call 12; refine (bgn3 _).mono ?_; rintro e w3 ⟨rfl, hb3⟩
  go_wp2_with fail
  go_ret
  exact ⟨rfl, below2 hb1 hb3⟩
end Go.Proofs.Ytkjhnefbcnnjlaa.Frame
