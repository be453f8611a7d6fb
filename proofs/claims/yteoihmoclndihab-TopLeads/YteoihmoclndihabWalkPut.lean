/- What num.Zig, num.Zag, num.Put and their counterparts of the document's answer return, for every input. -/
import Derived.Test.YteoihmoclndihabShelf
import Derived.Test.YteoihmoclndihabMathBits
import Derived.WalkKit
import Derived.Laws.IdiomStrings
import Derived.RegionTactic
import Derived.Deep.RegionWith
import Derived.BigRegion
import Derived.ChangeAlike
set_option linter.unusedVariables false
namespace Go.Proofs.Yteoihmoclndihab
open Go.RowKit
theorem ret_int {k : IntKind} {a b : Int} (h : a = b) : Ending.returned (.int k a) = .returned (.int k b) := by rw [h]
theorem ret_str {a b : ByteArray} (h : a = b) : Ending.returned (.string a) = .returned (.string b) := by rw [h]

theorem bytesOf_any (n : Int) (w : World) (h0 : 0 ≤ n) (h1 : n ≤ 18446744073709551615) (k : Nat) (hk : (Lib.bitLen (n.toNat ||| 1) + 6) / 7 = k + 1) (hk9 : k ≤ 9) :
    Calls Try.prog 35 #[.int .u64 n] w fun e w' => e = .returned (.int .i64 (k + 1)) ∧ w' = w := by
  have e1 := or_one_u64 n h0 h1
  have e2 := or_one_le n.toNat (by omega)
  go_enter Try.func35, Try.ntmps35
  go_wp2_with (go_at_call 55; refine (Try.bits_Len64 _ _ (by omega) (by omega)).mono ?_; rintro e w' ⟨rfl, rfl⟩)
  go_ret
  exact ⟨ret_int (by omega), rfl⟩
theorem addr_add (b o j : Nat) : (⟨b, o, none⟩ : Addr).add j = ⟨b, o + j, none⟩ := by unfold Addr.add; split <;> simp_all
/-- the bytes that the loop and the last store leave -/
theorem put_cells (n : Int) (h0 : 0 ≤ n) (k : Nat) (hlt : n.toNat < 128 ^ (k + 1)) (hge : k = 0 ∨ 128 ^ k ≤ n.toNat) (hk9 : k ≤ 9) (C : Array Value) (hC : C.size = 10)
    (hm : ∀ m, m < k + 1 → C[m]? = some (.int .u8 (n / 2 ^ (7 * m) % 128 + 128))) (j : Nat) (hj : j < (putL n.toNat).length) :
    (C.setIfInBounds k (.int .u8 (bits BinOp.andNot IntKind.u8 (n / 2 ^ (7 * k) % 128 + 128) 128)))[j]? = some (.int .u8 ((putL n.toNat)[j].toNat : Int)) := by
  have hl := putL_len k n.toNat hlt hge
  have hat := putL_at k n.toNat j hlt hge (by omega)
  have p : ∀ m, (128 : Nat) ^ m = 2 ^ (7 * m) := fun m => by rw [show 128 = 2 ^ 7 by rfl, ← Nat.pow_mul]
  have hd : ∀ m, n / 2 ^ (7 * m) = ((n.toNat / 128 ^ m : Nat) : Int) := fun m => by
    rw [p]
    obtain ⟨a, rfl⟩ := Int.eq_ofNat_of_zero_le h0
    simp
  rw [List.getElem?_eq_getElem hj] at hat
  have hat' : (putL n.toNat)[j] = UInt8.ofNat (if j = k then n.toNat / 128 ^ j else n.toNat / 128 ^ j % 128 + 128) := Option.some.inj hat
  rw [hat']
  by_cases hjk : j = k
  · subst hjk
    rw [Array.getElem?_setIfInBounds_self_of_lt (by omega), if_pos rfl, andNot128 _ (by omega) (by omega), hd]
    have hb : n.toNat / 128 ^ j < 128 := by
      rw [Nat.div_lt_iff_lt_mul (Nat.pow_pos (by decide))]
      rw [Nat.pow_succ] at hlt; omega
    have : (UInt8.ofNat (n.toNat / 128 ^ j)).toNat = n.toNat / 128 ^ j := by simp; omega
    rw [this]
    congr 2
    omega
  · rw [Array.getElem?_setIfInBounds_ne (by omega), hm j (by omega), if_neg hjk, hd]
    have : (UInt8.ofNat (n.toNat / 128 ^ j % 128 + 128)).toNat = n.toNat / 128 ^ j % 128 + 128 := by simp; omega
    rw [this]
    simp
theorem put_any (n : Int) (w : World) (h0 : 0 ≤ n) (h1 : n ≤ 18446744073709551615) :
    Calls Try.prog 13 #[.int .u64 n] w fun e w' => e = .returned (.string ⟨(putL n.toNat).toArray⟩) ∧ Below w.heap.size w w' := by
  obtain ⟨k, hk, hk9, hlt, hge⟩ := many_spec n.toNat (by omega)
  have HL : Hid (n.toNat < 128 ^ (k + 1) ∧ (k = 0 ∨ 128 ^ k ≤ n.toNat)) := ⟨hlt, hge⟩
  clear hlt hge
  go_enter Try.func13, Try.ntmps13
  go_wp2_with (go_at_call 35; refine (bytesOf_any _ _ h0 h1 k hk hk9).mono ?_; rintro e w' ⟨rfl, rfl⟩)
  go_loopw [9] (fun i wr => ∃ (j : Nat) (C : Array Value), j ≤ k + 1 ∧ i = .int .i64 j ∧ wr = w.alloc (.cells C 77) ∧ C.size = 10 ∧ ∀ m, m < j → C[m]? = some (.int .u8 (n / 2 ^ (7 * m) % 128 + 128))) (fun i _ => k + 1 - (intOf i).toNat)
  case atStart => exact ⟨0, _, by omega, rfl, rfl, rfl, fun m hm => by omega⟩
  case round =>
    obtain ⟨j, C, hj, rfl, rfl, hC, hm⟩ := hrel
    by_cases hlt : j < k + 1
    · have HM : Hid (∀ m, m < j → C[m]? = some (.int .u8 (n / 2 ^ (7 * m) % 128 + 128))) := hm
      clear hm
      obtain ⟨v0, hv0⟩ : ∃ v, C[j]? = some v := ⟨_, Array.getElem?_eq_getElem (by omega)⟩
      go_wp2
      go_roundw
      case rel =>
        refine ⟨j + 1, _, by omega, by go_num, rfl, by simp [hC], ?_⟩
        intro m hm
        by_cases hmj : m = j
        · subst hmj
          rw [Array.getElem?_setIfInBounds_self_of_lt (by omega), or128 _ (by omega) (by omega)]
          congr 2
          omega
        · rw [Array.getElem?_setIfInBounds_ne (by omega), HM.out m (by omega)]
      case measure => simp [intOf]; omega
    · obtain rfl : j = k + 1 := by omega
      have hk1 := hm k (by omega)
      have hslc : ∀ W : World, (Instr.sliceAt 77 (.pointer (some ⟨w.heap.size, 0, none⟩)) none (some (.int .i64 ((k : Int) + 1))) none).run Try.prog W = .ok (.slice (some ⟨w.heap.size, 0, none⟩) (k + 1) 10) W := fun W => by
        have hal : Try.prog.arrayLen 77 = 10 := by simp [Program.arrayLen, Try.underlying77]
        rw [run_sliceAt_array_h W 77 ⟨w.heap.size, 0, none⟩ (by simp [Program.arrayLen, Program.elem, Try.underlying77]) .i64 ((k : Int) + 1) (by omega) (by rw [hal]; omega)]
        go_simp
      have hcv := run_convert_bytes_back (P := Try.prog) (w.alloc (.cells (C.setIfInBounds k (.int .u8 (bits BinOp.andNot IntKind.u8 (n / 2 ^ (7 * k) % 128 + 128) 128))) 77)) 79 9 5 ⟨w.heap.size, 0, none⟩ 10 (putL n.toNat) Try.underlying79 Try.underlying5 Try.underlying9
        (fun j hj => by
          have e : (⟨w.heap.size, 0, none⟩ : Addr).add j = ⟨w.heap.size, j, none⟩ := by rw [addr_add]; simp
          rw [e, World.cell?_alloc_at _ _ _ _ rfl]
          exact put_cells n h0 k HL.out.1 HL.out.2 hk9 C hC hm j hj)
      rw [putL_len k n.toNat HL.out.1 HL.out.2] at hcv
      clear hm
      go_wp2
      go_ret
      exact ⟨rfl, (Below.refl _ _).alloc (Nat.le_refl _) _⟩

/-- the document's bytes -/
theorem bcell {W w1 : World} (hb : Below W.heap.size W w1) : (∀ b o, b < W.heap.size → w1.cell? ⟨b, o, none⟩ = W.cell? ⟨b, o, none⟩) ∧ (∀ b o, b < W.heap.size → w1.frozen? ⟨b, o, none⟩ = W.frozen? ⟨b, o, none⟩) :=
  ⟨fun b o h => hb.cell (p := ⟨b, o, none⟩) h, fun b o h => hb.frozen (p := ⟨b, o, none⟩) h⟩
theorem conv_one (x : Int) (h0 : 0 ≤ x) (h1 : x ≤ 255) (W : World) (g : Nat) (hc : W.cell? ⟨g, 0, none⟩ = some (.int .u8 x)) :
    (convert 79 9 (.slice (some ⟨g, 0, none⟩) 1 1)).run Try.prog W = .ok (.string ⟨#[UInt8.ofNat x.toNat]⟩) W :=
  run_convert_bytes_back (P := Try.prog) W 79 9 5 ⟨g, 0, none⟩ 1 [UInt8.ofNat x.toNat] Try.underlying79 Try.underlying5 Try.underlying9 (fun j hj => by
    obtain rfl : j = 0 := by simpa using hj
    rw [addr_add, Nat.zero_add, hc]
    simp
    omega)
theorem rput_cons (n : Int) (h : 128 ≤ n) : (⟨#[UInt8.ofNat (n % 128 + 128).toNat]⟩ ++ ⟨(putL (n / 128).toNat).toArray⟩ : ByteArray) = ⟨(putL n.toNat).toArray⟩ := by
  apply ByteArray.ext
  rw [ByteArray.data_append, putL_big n.toNat (by omega)]
  apply Array.ext'
  have e : (n / 128).toNat = n.toNat / 128 := by omega
  have e2 : (n % 128 + 128).toNat = n.toNat % 128 + 128 := by omega
  rw [e, e2]
  simp
end Go.Proofs.Yteoihmoclndihab
