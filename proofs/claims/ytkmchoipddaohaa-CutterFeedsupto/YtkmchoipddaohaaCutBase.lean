/- Rows of cells in memory; what the cutter's isFit, toldBy, mayRest, states and Check return. -/
import Derived.Test.YtkmchoipddaohaaProg
import Derived.Test.YtkmchoipddaohaaCutMath
import Derived.WalkKit
import Derived.WalkSmall
import Derived.Laws.IdiomStrings
import Derived.Laws.BitsAllLaws
import Derived.Laws.StructEq
import Derived.RegionTactic
import Derived.Deep.RegionWith
import Derived.BigRegion
import Derived.ChangeAlike
import Derived.BigQuiet
import Derived.Deep.QuietTactic
import Derived.OneCell
import Derived.Handy
import Derived.Laws.ResultCell
set_option linter.unusedVariables false
namespace Go.Proofs.Ytkmchoipddaohaa.Cut
open Go.RowKit

theorem below2 {a b c : World} (h1 : Below a.heap.size a b) (h2 : Below b.heap.size b c) : Below a.heap.size a c := h1.trans (h2.mono h1.size)
theorem below_drew {B : Nat} {w0 w : World} (h : Below B w0 w) : Below B w0 w.drew := h.trans ⟨rfl, rfl, rfl, Nat.le_refl _, fun _ _ => rfl⟩
theorem below_new {w0 w : World} (h : Below w0.heap.size w0 w) (o : Obj) : Below w0.heap.size w0 (w.alloc o) := h.alloc h.size _
theorem bset {B b k : Nat} {w0 w : World} {v : Value} (h : Below B w0 w) (hB : B ≤ b) : Below B w0 (w.setCell ⟨b, k, none⟩ v) := h.setCell (p := ⟨b, k, none⟩) hB v
def RowAt (W : World) (g : Nat) (cs : List Value) (t : TypeId) : Prop := W.heap[g]? = some (.cells cs.toArray t (0, 0))
theorem RowAt.lt {W : World} {g : Nat} {cs : List Value} {t : TypeId} (h : RowAt W g cs t) : g < W.heap.size := (Array.getElem?_eq_some_iff.1 h).1
theorem RowAt.cell {W : World} {g : Nat} {cs : List Value} {t : TypeId} (h : RowAt W g cs t) (k : Nat) : W.cell? ⟨g, k, none⟩ = cs[k]? := by
  unfold RowAt at h; simp [World.cell?, h]
theorem RowAt.frozen {W : World} {g : Nat} {cs : List Value} {t : TypeId} (h : RowAt W g cs t) (k : Nat) : W.frozen? ⟨g, k, none⟩ = false := by
  unfold RowAt at h; simp [World.frozen?, h]
theorem RowAt.below {W W' : World} {g : Nat} {cs : List Value} {t : TypeId} (h : RowAt W g cs t) (hb : Below W.heap.size W W') : RowAt W' g cs t := (hb.block g h.lt).trans h
theorem RowAt.drew {W : World} {g : Nat} {cs : List Value} {t : TypeId} (h : RowAt W g cs t) : RowAt W.drew g cs t := h
theorem RowAt.new (W : World) (cs : List Value) (t : TypeId) : RowAt (W.alloc (.cells cs.toArray t)) W.heap.size cs t := by unfold RowAt; simp only [World.alloc, Array.getElem?_push_size]
theorem RowAt.alloc {W : World} {g : Nat} {cs : List Value} {t : TypeId} (h : RowAt W g cs t) (o : Obj) : RowAt (W.alloc o) g cs t := h.below ((Below.refl _ W).alloc (Nat.le_refl _) _)
theorem RowAt.set1 {W : World} {g : Nat} {cs : List Value} {t : TypeId} (h : RowAt W g cs t) (k : Nat) (v : Value) : RowAt (W.setCell ⟨g, k, none⟩ v) g (cs.set k v) t := by
  unfold RowAt at h ⊢
  simp [World.setCell, Array.getElem?_modify, h]
theorem cells3 {W : World} {b : Nat} {x y z : Value} {t : TypeId} (h : RowAt W b [x, y, z] t) : W.cell? ⟨b, 0, none⟩ = some x ∧ W.cell? ⟨b, 1, none⟩ = some y ∧ W.cell? ⟨b, 2, none⟩ = some z ∧ ∀ k, W.frozen? ⟨b, k, none⟩ = false := ⟨h.cell 0, h.cell 1, h.cell 2, h.frozen⟩
theorem cells4 {W : World} {b : Nat} {x y z u : Value} {t : TypeId} (h : RowAt W b [x, y, z, u] t) : W.cell? ⟨b, 0, none⟩ = some x ∧ W.cell? ⟨b, 1, none⟩ = some y ∧ W.cell? ⟨b, 2, none⟩ = some z ∧ W.cell? ⟨b, 3, none⟩ = some u ∧ ∀ k, W.frozen? ⟨b, k, none⟩ = false := ⟨h.cell 0, h.cell 1, h.cell 2, h.cell 3, h.frozen⟩
def strV (p : List UInt8) : Value := .string ⟨p.toArray⟩
theorem str_list (s : ByteArray) : ∃ l : List UInt8, s = ⟨l.toArray⟩ ∧ l.length = s.size := ⟨s.data.toList, by cases s; simp, by simp⟩
theorem size_list (l : List UInt8) : (⟨l.toArray⟩ : ByteArray).size = l.length := by show l.toArray.size = _; simp

theorem byte_at (l : List UInt8) (k : Nat) (h : k < (⟨l.toArray⟩ : ByteArray).size) : (⟨l.toArray⟩ : ByteArray)[k] = l.getD k 0 := by
  have h2 : k < l.length := by rw [size_list] at h; exact h
  rw [List.getD_eq_getElem?_getD, List.getElem?_eq_getElem h2]
  rfl
theorem isFit_any (n : Nat) (w : World) (h : (n : Int) ≤ 9223372036854775807) : Calls Try.prog 18 #[.int .i64 (n : Int)] w fun e w' => e = .returned (.bool (fitN n)) ∧ w' = w := by
  have HF : Hid (fitN n = decide (1 ≤ n ∧ n ≤ 64)) := rfl
  generalize fitN n = R at HF ⊢
  by_cases h1 : 1 ≤ n
  · have d1 : decide (1 ≤ (n : Int)) = true := by rw [decide_eq_true_iff]; omega
    have HV : Hid (R = decide ((n : Int) ≤ 64)) := by show _ = _; rw [HF.out]; exact decide_eq_decide.2 (by omega)
    clear HF
    go_enter Try.func18, Try.ntmps18
    go_wp2
    go_ret
    exact ⟨by rw [HV.out]; rfl, rfl⟩
  · have d1 : decide (1 ≤ (n : Int)) = false := by rw [decide_eq_false_iff_not]; omega
    have HV : Hid (R = false) := by show _ = _; rw [HF.out, decide_eq_false_iff_not]; omega
    clear HF
    go_enter Try.func18, Try.ntmps18
    go_wp2
    go_ret
    exact ⟨by rw [HV.out]; rfl, rfl⟩
theorem shl_or (a b : Nat) (ha : a < 256) (hb : b < 256) : bits .or .i64 (a * 256 : Int) (b : Int) = ((256 * a + b : Nat) : Int) := by
  have e1 : (a : Int) * 256 = ((a * 256 : Nat) : Int) := by omega
  have hx : a * 256 ||| b = 256 * a + b := by
    have := Nat.shiftLeft_add_eq_or_of_lt (b := b) (i := 8) (by omega) a
    rw [Nat.shiftLeft_eq] at this
    rw [← this]; omega
  rw [e1]
  show IntKind.i64.wrap ((BitVec.ofInt 64 ((a * 256 : Nat) : Int) ||| BitVec.ofInt 64 (b : Int)).toNat : Int) = _
  rw [BitVec.toNat_or, ofInt_u64 _ (by omega), ofInt_u64 b (by omega), hx]
  simp [IntKind.wrap, IntKind.bits, IntKind.signed]
  omega
theorem toldBy_any (l : List UInt8) (w : World) (h3 : 3 ≤ l.length) (h : (l.length : Int) ≤ 9223372036854775807) : Calls Try.prog 24 #[.string ⟨l.toArray⟩] w fun e w' => e = .returned (.int .i64 (toldN l : Int)) ∧ Below w.heap.size w w' := by
  have hs := size_list l
  have HT : Hid (toldN l = 256 * (l.getD 1 0).toNat + (l.getD 2 0).toNat) := rfl
  have i1 : 1 < l.length := by omega
  have i2 : 2 < l.length := by omega
  have i1' : (1 : Int) < (l.length : Int) := by omega
  have i2' : (2 : Int) < (l.length : Int) := by omega
  have e1 := byte_at l 1 (by rw [hs]; omega)
  have e2 := byte_at l 2 (by rw [hs]; omega)
  have b1 := (l.getD 1 0).toNat_lt
  have b2 := (l.getD 2 0).toNat_lt
  generalize toldN l = R at HT ⊢
  generalize l.getD 1 0 = x at *
  generalize l.getD 2 0 = y at *
  go_enter Try.func24, Try.ntmps24
  go_wp2
  go_region
  go_wp2
  go_ret
  exact ⟨by rw [HT.out, ← shl_or _ _ b1 b2]; rfl, (Below.refl _ w).trans ⟨rfl, rfl, rfl, Nat.le_refl _, fun _ _ => rfl⟩⟩
theorem mayR_nil : mayR [] = true := rfl
theorem mayR_cons (b : UInt8) (t : List UInt8) : mayR (b :: t) = (decide (b = 245) && (decide ((b :: t).length < 3) || (fitN (toldN (b :: t)) && decide ((b :: t).length < 3 + toldN (b :: t))))) := rfl
theorem byte_ne (x : UInt8) (h : x ≠ 245) : ((x.toNat : Int) != 245) = true := by
  have : x.toNat ≠ 245 := fun e => h (UInt8.toNat_inj.1 e)
  simp; omega
set_option maxHeartbeats 1000000 in
theorem mayRest_any (l : List UInt8) (w : World) (h : (l.length : Int) ≤ 281474976710656) : Calls Try.prog 19 #[.string ⟨l.toArray⟩] w fun e w' => e = .returned (.bool (mayR l)) ∧ Below w.heap.size w w' := by
  cases l with
  | nil =>
    go_enter Try.func19, Try.ntmps19
    go_wp2
    go_ret
    exact ⟨rfl, Below.refl _ _⟩
  | cons b t =>
    have HM := mayR_cons b t
    obtain ⟨l, hl⟩ : ∃ l, l = b :: t := ⟨_, rfl⟩
    rw [← hl] at HM h ⊢
    have h0 : 0 < l.length := by rw [hl]; simp
    have hg0 : l.getD 0 0 = b := by rw [hl]; rfl
    have e0 := byte_at l 0 (by rw [size_list]; exact h0)
    rw [hg0] at e0
    have hne : l.isEmpty = false := by rw [hl]; rfl
    have h0i : (0 : Int) < (l.length : Int) := by omega
    clear hl hg0
    by_cases hb : b = 245
    · have HB : Hid (mayR l = (decide (l.length < 3) || (fitN (toldN l) && decide (l.length < 3 + toldN l)))) := by show _ = _; rw [HM, hb]; rfl
      have hq : ((b.toNat : Int) != 245) = false := by rw [hb]; rfl
      generalize mayR l = R at *
      clear HM
      by_cases h3 : l.length < 3
      · have d3 : decide ((l.length : Int) < 3) = true := by rw [decide_eq_true_iff]; omega
        have d3' : decide (l.length < 3) = true := by rw [decide_eq_true_iff]; omega
        have HV : Hid (R = true) := by show _ = _; rw [HB.out, d3']; rfl
        clear HB hb
        go_enter Try.func19, Try.ntmps19
        go_wp2
        go_ret
        exact ⟨by rw [HV.out]; rfl, Below.refl _ _⟩
      · have d3 : decide ((l.length : Int) < 3) = false := by rw [decide_eq_false_iff_not]; omega
        have d3' : decide (l.length < 3) = false := by rw [decide_eq_false_iff_not]; omega
        have ct := fun W => toldBy_any l W (by omega) (by omega)
        have htl := toldN_lt l
        have cf := fun W => isFit_any (toldN l) W (by omega)
        have HV : Hid (R = (fitN (toldN l) && decide ((l.length : Int) < 3 + (toldN l : Int)))) := by
          show _ = _; rw [HB.out, d3', Bool.false_or, show decide (l.length < 3 + toldN l) = decide ((l.length : Int) < 3 + (toldN l : Int)) from decide_eq_decide.2 (by omega)]
        clear HB hb
        generalize toldN l = T at *
        have hTi : (T : Int) ≤ 65535 := by omega
        generalize fitN T = B at *
        cases B
        · go_enter Try.func19, Try.ntmps19
          go_wp2_with fail
          go_at_call 24; refine (ct _).mono ?_; rintro e w1 ⟨rfl, hb1⟩
          go_wp2_with fail
          go_at_call 18; refine (cf _).mono ?_; rintro e w2 ⟨rfl, rfl⟩
          go_wp2_with fail
          go_ret
          exact ⟨by rw [HV.out]; rfl, hb1⟩
        · go_enter Try.func19, Try.ntmps19
          go_wp2_with fail
          go_at_call 24; refine (ct _).mono ?_; rintro e w1 ⟨rfl, hb1⟩
          go_wp2_with fail
          go_at_call 18; refine (cf _).mono ?_; rintro e w2 ⟨rfl, rfl⟩
          go_wp2_with fail
          go_at_call 24; refine (ct _).mono ?_; rintro e w3 ⟨rfl, hb3⟩
          go_wp2_with fail
          go_ret
          exact ⟨by rw [HV.out]; rfl, below2 hb1 hb3⟩
    · have HV : Hid (mayR l = false) := by show _ = _; rw [HM, decide_eq_false hb]; rfl
      have hq := byte_ne b hb
      generalize mayR l = R at *
      clear HM hb
      go_enter Try.func19, Try.ntmps19
      go_wp2
      go_ret
      exact ⟨by rw [HV.out]; rfl, Below.refl _ _⟩
end Go.Proofs.Ytkmchoipddaohaa.Cut
