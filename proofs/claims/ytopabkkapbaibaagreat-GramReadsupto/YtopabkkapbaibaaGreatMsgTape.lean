/- A tape in memory: what take, single, number, isSix do to it. -/
import Derived.Test.YtopabkkapbaibaaGreatMsgMath
import Derived.Test.YtopabkkapbaibaaGreatAddrEql
import Derived.Test.YtopabkkapbaibaaGreatWalkGet
import Derived.Test.YtopabkkapbaibaaGreatWalkPut
import Derived.OwnWalk
import Derived.Deep.Cut
import Derived.Deep.DeepCutAuto
import Derived.Deep.RegionHeld3
set_option linter.unusedVariables false
namespace Go.Proofs.YtopabkkapbaibaaGreat.Msg
open Go.RowKit
open Go.Proofs.YtopabkkapbaibaaGreat.Addr (Pf okP checkP wideN firstN kP hiN loN adV pfV RowAt below2 below_drew below_new bset RowAt.lt RowAt.cell RowAt.frozen RowAt.below RowAt.drew RowAt.new RowAt.alloc gdrew gset gbelow galloc grefl cells2 cells4 results_cell)

theorem size_list (l : List UInt8) : (⟨l.toArray⟩ : ByteArray).size = l.length := by show l.toArray.size = _; simp
theorem str_list (s : ByteArray) : ∃ l : List UInt8, s = ⟨l.toArray⟩ ∧ l.length = s.size := ⟨s.data.toList, by cases s; simp, by simp⟩
theorem bytes_cat (a b : List UInt8) : (⟨a.toArray⟩ : ByteArray) ++ ⟨b.toArray⟩ = ⟨(a ++ b).toArray⟩ := by
  apply ByteArray.ext
  simp
theorem grown2 {a b c : World} {r : Option Nat} (h1 : a.grownBy b r) (h2 : b.grownBy c r) : a.grownBy c r :=
  ⟨h2.os.trans h1.os, h2.tape.trans h1.tape, h2.output.trans h1.output, Nat.le_trans h1.size h2.size, fun k hk hn => (h2.block k (Nat.lt_of_lt_of_le hk h1.size) hn).trans (h1.block k hk hn)⟩
theorem set1 {W : World} {g : Nat} {cs : List Value} {t : TypeId} (h : RowAt W g cs t) (k : Nat) (v : Value) : RowAt (W.setCell ⟨g, k, none⟩ v) g (cs.set k v) t := by
  unfold Addr.RowAt at *
  simp only [World.setCell]
  rw [Array.getElem?_modify, if_pos rfl, h]
  simp
/-- a reader at block g: what is left, or bad -/
def Rd (W : World) (g : Nat) (l : List UInt8) (b : Bool) : Prop := RowAt W g [.string ⟨l.toArray⟩, .bool b] 100
def Rds (W : World) (g : Nat) (st : Option (List UInt8)) : Prop :=
  match st with
  | some l => Rd W g l false
  | none => ∃ l, Rd W g l true
/-- what a step of reading answers -/
def RdPost {α : Type} (enc : α → Value) (W : World) (g : Nat) (r : Option (α × List UInt8)) (e : Ending) (w' : World) : Prop :=
  match r with
  | some (v, t) => e = .returned (.tuple #[enc v, .bool true]) ∧ Rd w' g t false ∧ W.grownBy w' (some g)
  | none => ∃ (v : α) (t : List UInt8), e = .returned (.tuple #[enc v, .bool false]) ∧ Rd w' g t false ∧ W.grownBy w' (some g)
theorem take_pre (l : List UInt8) (k : Nat) (h : k ≤ l.length) : (⟨l.toArray⟩ : ByteArray).extract 0 k = ⟨(l.take k).toArray⟩ := by
  apply ByteArray.ext
  simp
theorem drop_suf (l : List UInt8) (k : Nat) (h : k ≤ l.length) : (⟨l.toArray⟩ : ByteArray).extract k l.length = ⟨(l.drop k).toArray⟩ := by
  apply ByteArray.ext
  simp
  rw [List.take_of_length_le (by simp)]
theorem take_any (g : Nat) (l : List UInt8) (k : Nat) (W : World) (h : Rd W g l false) (hl : (l.length : Int) ≤ 200000000000000) (hk : (k : Int) ≤ 1000000) :
    Calls Tryz.prog 70 #[.pointer (some ⟨g, 0, none⟩), .int .i64 (k : Int)] W fun e w' =>
      (l.length < k → e = .returned (.tuple #[.string ⟨#[]⟩, .bool false]) ∧ w' = W) ∧ (k ≤ l.length → e = .returned (.tuple #[.string ⟨(l.take k).toArray⟩, .bool true]) ∧ Rd w' g (l.drop k) false ∧ W.grownBy w' (some g)) := by
  obtain ⟨x0, x1, xf⟩ := cells2 h
  have hlt := RowAt.lt h
  by_cases hc : l.length < k
  · have d : decide ((l.length : Int) < (k : Int)) = true := decide_eq_true (by omega)
    have d' : decide (l.length < k) = true := decide_eq_true hc
    go_enter Tryz.func70, Tryz.ntmps70
    go_wp2_with fail
    go_ret2
    exact ⟨fun _ => ⟨rfl, rfl⟩, fun h => by omega⟩
  · have d : decide ((l.length : Int) < (k : Int)) = false := decide_eq_false (by omega)
    have d' : decide (l.length < k) = false := decide_eq_false hc
    have hkl : k ≤ l.length := by omega
    have hkli : (k : Int) ≤ (l.length : Int) := by omega
    have e1 := take_pre l k hkl
    have e2 := drop_suf l k hkl
    have hR : Rd (W.setCell ⟨g, 0, none⟩ (.string ⟨(l.drop k).toArray⟩)) g (l.drop k) false := set1 h 0 _
    have hG : W.grownBy (W.setCell ⟨g, 0, none⟩ (.string ⟨(l.drop k).toArray⟩)) (some g) := gset (grefl W _)
    have HR : Hid (Rd (W.setCell ⟨g, 0, none⟩ (.string ⟨(l.drop k).toArray⟩)) g (l.drop k) false) := hR
    clear hR h
    go_enter Tryz.func70, Tryz.ntmps70
    go_wp2_with fail
    go_ret2
    exact ⟨fun h => by omega, fun _ => ⟨rfl, HR.out, hG⟩⟩
theorem byte_at (l : List UInt8) (k : Nat) (h : k < (⟨l.toArray⟩ : ByteArray).size) : (⟨l.toArray⟩ : ByteArray)[k] = l.getD k 0 := by
  have h2 : k < l.length := by rw [size_list] at h; exact h
  rw [List.getD_eq_getElem?_getD, List.getElem?_eq_getElem h2]
  rfl
end Go.Proofs.YtopabkkapbaibaaGreat.Msg
