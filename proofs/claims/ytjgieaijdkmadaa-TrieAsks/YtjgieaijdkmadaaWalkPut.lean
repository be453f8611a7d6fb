/- What num.Zig, num.Zag, num.Put and their counterparts of the document's answer return, for every input. -/
import Derived.Test.YtjgieaijdkmadaaShelf
import Derived.Test.YtjgieaijdkmadaaMathBits
import Derived.WalkKit
import Derived.Laws.IdiomStrings
import Derived.RegionTactic
import Derived.Deep.RegionWith
import Derived.BigRegion
import Derived.ChangeAlike
set_option linter.unusedVariables false
namespace Go.Proofs.Ytjgieaijdkmadaa
open Go.RowKit
theorem ret_int {k : IntKind} {a b : Int} (h : a = b) : Ending.returned (.int k a) = .returned (.int k b) := by rw [h]
theorem ret_str {a b : ByteArray} (h : a = b) : Ending.returned (.string a) = .returned (.string b) := by rw [h]

theorem addr_add (b o j : Nat) : (⟨b, o, none⟩ : Addr).add j = ⟨b, o + j, none⟩ := by unfold Addr.add; split <;> simp_all
/-- the bytes that the loop and the last store leave -/
theorem put_cells (n : Int) (h0 : 0 ≤ n) (k : Nat) (hlt : n.toNat < 128 ^ (k + 1)) (hge : k = 0 ∨ 128 ^ k ≤ n.toNat) (hk9 : k ≤ 9) (C : Array Value) (hC : C.size = 10)
    (hm : ∀ m, m < k + 1 → C[m]? = some (.int .u8 (n / 2 ^ (7 * m) % 128 + 128))) (j : Nat) (hj : j < (putL n.toNat).length) :
    (C.setIfInBounds k (.int .u8 (bits BinOp.andNot IntKind.u8 (n / 2 ^ (7 * k) % 128 + 128) 128)))[j]? = some (.int .u8 ((putL n.toNat)[j].toNat : Int)) := by
  have hl := putL_len k n.toNat hlt hge
  have hat := putL_at k n.toNat j hlt hge (by omega)
  have p : ∀ m, (128 : Nat) ^ m = 2 ^ (7 * m) := fun m => by rw [show 128 = 2 ^ 7 by rfl, ← Nat.pow_mul]
  have hd : ∀ m, n / 2 ^ (7 * m) = ((n.toNat / 128 ^ m : Nat) : Int) := fun m => by
    rw [p]
    obtain ⟨a, rfl⟩ := Int.eq_ofNat_of_zero_le h0
    simp
  rw [List.getElem?_eq_getElem hj] at hat
  have hat' : (putL n.toNat)[j] = UInt8.ofNat (if j = k then n.toNat / 128 ^ j else n.toNat / 128 ^ j % 128 + 128) := Option.some.inj hat
  rw [hat']
  by_cases hjk : j = k
  · subst hjk
    rw [Array.getElem?_setIfInBounds_self_of_lt (by omega), if_pos rfl, andNot128 _ (by omega) (by omega), hd]
    have hb : n.toNat / 128 ^ j < 128 := by
      rw [Nat.div_lt_iff_lt_mul (Nat.pow_pos (by decide))]
      rw [Nat.pow_succ] at hlt; omega
    have : (UInt8.ofNat (n.toNat / 128 ^ j)).toNat = n.toNat / 128 ^ j := by simp; omega
    rw [this]
    congr 2
    omega
  · rw [Array.getElem?_setIfInBounds_ne (by omega), hm j (by omega), if_neg hjk, hd]
    have : (UInt8.ofNat (n.toNat / 128 ^ j % 128 + 128)).toNat = n.toNat / 128 ^ j % 128 + 128 := by simp; omega
    rw [this]
    simp
/-- the document's bytes -/
theorem bcell {W w1 : World} (hb : Below W.heap.size W w1) : (∀ b o, b < W.heap.size → w1.cell? ⟨b, o, none⟩ = W.cell? ⟨b, o, none⟩) ∧ (∀ b o, b < W.heap.size → w1.frozen? ⟨b, o, none⟩ = W.frozen? ⟨b, o, none⟩) :=
  ⟨fun b o h => hb.cell (p := ⟨b, o, none⟩) h, fun b o h => hb.frozen (p := ⟨b, o, none⟩) h⟩
theorem rput_cons (n : Int) (h : 128 ≤ n) : (⟨#[UInt8.ofNat (n % 128 + 128).toNat]⟩ ++ ⟨(putL (n / 128).toNat).toArray⟩ : ByteArray) = ⟨(putL n.toNat).toArray⟩ := by
  apply ByteArray.ext
  rw [ByteArray.data_append, putL_big n.toNat (by omega)]
  apply Array.ext'
  have e : (n / 128).toNat = n.toNat / 128 := by omega
  have e2 : (n % 128 + 128).toNat = n.toNat % 128 + 128 := by omega
  rw [e, e2]
  simp
end Go.Proofs.Ytjgieaijdkmadaa
