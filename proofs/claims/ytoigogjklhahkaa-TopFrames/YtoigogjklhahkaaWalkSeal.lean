/- What crc.Text, Read, Sealed, Open and the document's return, for every sum and text. -/
import Derived.Test.YtoigogjklhahkaaWalkCrc
import Derived.Handy
set_option linter.unusedVariables false
namespace Go.Proofs.Ytoigogjklhahkaa.Crc
open Go.RowKit

/-- a sum's bytes, the highest one first -/
def textR (n : Nat) : List UInt8 := [UInt8.ofNat (n / 16777216), UInt8.ofNat (n / 65536), UInt8.ofNat (n / 256), UInt8.ofNat n]
theorem addr_add (b o j : Nat) : (⟨b, o, none⟩ : Addr).add j = ⟨b, o + j, none⟩ := by unfold Addr.add; split <;> simp_all
theorem ofNat_toNat (n : Nat) : ((UInt8.ofNat n).toNat : Int) = (n : Int) % 256 := by simp
theorem text_cells (n : Nat) (h : n < 4294967296) (w : World) (T : TypeId) :
    (convert 49 9 (.slice (some ⟨w.heap.size, 0, none⟩) 4 4)).run Try.prog (w.alloc (.cells #[Value.int .u8 ((n : Int) / 16777216), .int .u8 ((n : Int) / 65536 % 256), .int .u8 ((n : Int) / 256 % 256), .int .u8 ((n : Int) % 256)] T)) =
      .ok (.string ⟨(textR n).toArray⟩) (w.alloc (.cells #[Value.int .u8 ((n : Int) / 16777216), .int .u8 ((n : Int) / 65536 % 256), .int .u8 ((n : Int) / 256 % 256), .int .u8 ((n : Int) % 256)] T)) :=
  run_convert_bytes_back (P := Try.prog) _ 49 9 5 ⟨w.heap.size, 0, none⟩ 4 (textR n) Try.underlying49 Try.underlying5 Try.underlying9 (fun j hj => by
    rw [addr_add, Nat.zero_add, World.cell?_alloc_at _ _ _ _ rfl]
    match j, hj with
    | 0, _ => simp [textR]; omega
    | 1, _ => simp [textR]
    | 2, _ => simp [textR]
    | 3, _ => simp [textR])
set_option maxRecDepth 20000 in
set_option maxHeartbeats 1000000 in
theorem text_any (n : Nat) (w : World) (h : n < 4294967296) :
    Calls Try.prog 34 #[.int .u32 (n : Int)] w fun e w' => e = .returned (.string ⟨(textR n).toArray⟩) ∧ Below w.heap.size w w' := by
  have hi : (n : Int) ≤ 4294967295 := by omega
  have hi0 : (0 : Int) ≤ (n : Int) := by omega
  have hcv := text_cells n h w
  clear h
  go_enter Try.func34, Try.ntmps34
  go_wp2
  go_rounds 5
  go_ret
  exact ⟨rfl, (Below.refl _ _).alloc (Nat.le_refl _) _⟩
theorem str_list (s : ByteArray) : ∃ l : List UInt8, s = ⟨l.toArray⟩ ∧ l.length = s.size := ⟨s.data.toList, by cases s; simp, by simp⟩
theorem size_list (l : List UInt8) : (⟨l.toArray⟩ : ByteArray).size = l.length := by show l.toArray.size = _; simp
theorem str_app (a b : List UInt8) : (⟨a.toArray⟩ ++ ⟨b.toArray⟩ : ByteArray) = ⟨(a ++ b).toArray⟩ := by
  apply ByteArray.ext
  rw [ByteArray.data_append]
  simp
theorem extract_drop (s : ByteArray) (k : Nat) : s.extract k s.size = ⟨(s.data.toList.drop k).toArray⟩ := by
  apply ByteArray.ext
  rw [ByteArray.data_extract]
  apply Array.ext'
  simp [List.take_of_length_le]
theorem extract_take (s : ByteArray) (k : Nat) : s.extract 0 k = ⟨(s.data.toList.take k).toArray⟩ := by
  apply ByteArray.ext
  rw [ByteArray.data_extract]
  apply Array.ext'
  simp
theorem clone_any (s : ByteArray) (w : World) (hs : s.size ≤ 281474976710656) :
    Calls Try.prog 30 #[.string s] w fun e w' => e = .returned (.string s) ∧ Below w.heap.size w w' := by
  go_enter Try.func30, Try.ntmps30
  go_wp2_with (go_at_call 47; refine (Try.stringslite_Clone s _ hs).mono ?_; rintro e w1 ⟨rfl, hb⟩)
  go_ret
  exact ⟨rfl, hb⟩

/-- four bytes as a sum -/
def be4 (a b c d : UInt8) : Nat := 16777216 * a.toNat + 65536 * b.toNat + 256 * c.toNat + d.toNat
def readL : List UInt8 → Nat × List UInt8 × Int
  | a :: b :: c :: d :: l => (be4 a b c d, l, 0)
  | _ => (0, [], 5)
theorem or_low (a : Int) (b : Int) (ha : 0 ≤ a) (ha1 : a < 16777216) (hb : 0 ≤ b) (hb1 : b ≤ 255) : bits BinOp.or IntKind.u32 (a * 256) b = a * 256 + b :=
  bits_join .u32 32 (by decide) wraps32 8 (a * 256) b (by omega) (by omega) (by omega) hb (by omega) (by omega)
theorem or2 (a b c : Nat) (ha : (a : Int) ≤ 255) (hb : (b : Int) ≤ 255) (hc : (c : Int) ≤ 255) : bits BinOp.or IntKind.u32 (((a : Int) * 256 + (b : Int)) * 256) (c : Int) = ((a : Int) * 256 + (b : Int)) * 256 + (c : Int) :=
  or_low _ _ (by omega) (by omega) (by omega) hc
theorem or3 (a b c d : Nat) (ha : (a : Int) ≤ 255) (hb : (b : Int) ≤ 255) (hc : (c : Int) ≤ 255) (hd : (d : Int) ≤ 255) : bits BinOp.or IntKind.u32 ((((a : Int) * 256 + (b : Int)) * 256 + (c : Int)) * 256) (d : Int) = (((a : Int) * 256 + (b : Int)) * 256 + (c : Int)) * 256 + (d : Int) :=
  or_low _ _ (by omega) (by omega) (by omega) hd
theorem ret_read {a b : Int} {r : ByteArray} {e : Int} (h : a = b) : Ending.returned (.tuple #[.int .u32 a, .string r, .int .i64 e]) = .returned (.tuple #[.int .u32 b, .string r, .int .i64 e]) := by rw [h]
theorem four (l : List UInt8) (h : 4 ≤ l.length) : ∃ a b c d r, l = a :: b :: c :: d :: r := by
  match l, h with
  | a :: b :: c :: d :: r, _ => exact ⟨a, b, c, d, r, rfl⟩
theorem readL_short (l : List UInt8) (h : ¬ 4 ≤ l.length) : readL l = (0, [], 5) := by
  match l, h with
  | [], _ => rfl
  | [_], _ => rfl
  | [_, _], _ => rfl
  | [_, _, _], _ => rfl
  | _ :: _ :: _ :: _ :: _, h => simp at h
end Go.Proofs.Ytoigogjklhahkaa.Crc
