/- What disk's spend, whole and the part of a crash do. -/
import Derived.Test.YtoigogjklhahkaaDiskRows
set_option linter.unusedVariables false
namespace Go.Proofs.Ytoigogjklhahkaa.Disk
open Go.RowKit Go.Shelf

/-- a drive in its box: where it is, its two rows, the fuse, whether it is off -/
def Box (W : World) (B : Nat) (s c : Value) (f : Int) (o : Bool) : Prop := W.heap[B]? = some (.cells #[s, c, .int .i64 f, .bool o] 60)
theorem Box.lt {W : World} {B : Nat} {s c : Value} {f : Int} {o : Bool} (h : Box W B s c f o) : B < W.heap.size := (Array.getElem?_eq_some_iff.1 h).1
theorem Box.cells {W : World} {B : Nat} {s c : Value} {f : Int} {o : Bool} (h : Box W B s c f o) : W.cell? ⟨B, 0, none⟩ = some s ∧ W.cell? ⟨B, 1, none⟩ = some c ∧ W.cell? ⟨B, 2, none⟩ = some (.int .i64 f) ∧ W.cell? ⟨B, 3, none⟩ = some (.bool o) := by
  unfold Box at h
  refine ⟨?_, ?_, ?_, ?_⟩ <;> simp [World.cell?, h]
theorem Box.frozen {W : World} {B : Nat} {s c : Value} {f : Int} {o : Bool} (h : Box W B s c f o) : ∀ k, W.frozen? ⟨B, k, none⟩ = false := by
  intro k
  unfold Box at h
  simp [World.frozen?, h]
theorem Box.kept {W W' : World} {B : Nat} {s c : Value} {f : Int} {o : Bool} {r : Option Nat} (h : Box W B s c f o) (hg : W.grownBy W' r) (hr : some B ≠ r) : Box W' B s c f o :=
  (hg.block B h.lt hr).trans h
theorem Box.below {W W' : World} {B : Nat} {s c : Value} {f : Int} {o : Bool} (h : Box W B s c f o) (hg : Below W.heap.size W W') : Box W' B s c f o :=
  (hg.block B h.lt).trans h
theorem Box.set {W : World} {B : Nat} {s c : Value} {f : Int} {o : Bool} (h : Box W B s c f o) :
    (∀ s', Box (W.setCell ⟨B, 0, none⟩ s') B s' c f o) ∧ (∀ c', Box (W.setCell ⟨B, 1, none⟩ c') B s c' f o) ∧ (∀ f', Box (W.setCell ⟨B, 2, none⟩ (.int .i64 f')) B s c f' o) ∧ (∀ o', Box (W.setCell ⟨B, 3, none⟩ (.bool o')) B s c f o') := by
  unfold Box at *
  refine ⟨fun s' => ?_, fun s' => ?_, fun s' => ?_, fun s' => ?_⟩
  all_goals rw [heap_setCell_same W B _ _ _ _ h]; rfl

def offAfter (f : Int) (o : Bool) : Bool := o || f == 0
def spendE (f : Int) (o : Bool) : Int := if o || f == 0 then 9 else 0
def spendF (f : Int) (o : Bool) : Int := if o then f else if 0 < f then f - 1 else f
theorem spend_any (B : Nat) (s c : Value) (f : Int) (o : Bool) (w : World) (h : Box w B s c f o) (hf : -1 ≤ f ∧ f ≤ 9223372036854775807) :
    Calls Try.prog 37 #[.pointer (some ⟨B, 0, none⟩)] w fun e w' => e = .returned (.int .i64 (spendE f o)) ∧ Box w' B s c (spendF f o) (offAfter f o) ∧ w.grownBy w' (some B) := by
  obtain ⟨h0, h1, h2, h3⟩ := h.cells
  have hfz := h.frozen
  have HB : Hid (Box w B s c f o) := h
  clear h
  cases o with
  | true =>
    go_enter Try.func37, Try.ntmps37
    go_wp2
    go_ret
    exact ⟨rfl, (HB.out.set).2.2.2 true, grown_set _ _ _ _⟩
  | false =>
    by_cases hz : f = 0
    · subst hz
      go_enter Try.func37, Try.ntmps37
      go_wp2
      go_ret
      exact ⟨rfl, (HB.out.set).2.2.2 true, grown_set _ _ _ _⟩
    · have hz' : (f == 0) = false := by simpa using hz
      have e1 : spendE f false = 0 := by simp [spendE, hz]
      have e2 : offAfter f false = false := by simp [offAfter, hz]
      rw [e1, e2]
      clear e1 e2
      by_cases hp : 0 < f
      · have e3 : spendF f false = f - 1 := by simp [spendF, hp]
        rw [e3]
        clear e3
        go_enter Try.func37, Try.ntmps37
        go_wp2
        go_ret
        exact ⟨rfl, (HB.out.set).2.2.1 (f - 1), grown_set _ _ _ _⟩
      · have e3 : spendF f false = f := by simp [spendF, hp]
        rw [e3]
        clear e3
        go_enter Try.func37, Try.ntmps37
        go_wp2
        go_ret
        exact ⟨rfl, HB.out, World.grownBy.refl _ _⟩

theorem whole_any (i : Int) (w : World) : Calls Try.prog 28 #[.int .i64 i] w fun e w' => e = .returned (.int .i64 ((128 : Nat) : Int)) ∧ w' = w := by
  go_enter Try.func28, Try.ntmps28
  go_wp2
  go_ret
  exact ⟨rfl, rfl⟩

/-- how much of the write at place i a crash keeps -/
def partN (keep : List Bool) (torn bytes : Int) (i : Nat) : Nat := if (i : Int) = torn then (min (max bytes 0) 128).toNat else if keep.getD i false then 128 else 0
theorem partN_le (keep : List Bool) (torn bytes : Int) (i : Nat) : partN keep torn bytes i ≤ 128 := by
  unfold partN; split
  · omega
  · split <;> omega
theorem ret_i2 {k : IntKind} {a b : Int} (h : a = b) : Ending.returned (.int k a) = .returned (.int k b) := by rw [h]
/-- the boxes that the part of a crash reads -/
structure PartBox (W : World) (t b k : Nat) (keep : List Bool) (torn bytes : Int) : Prop where
  torn : W.cell? ⟨t, 0, none⟩ = some (.int .i64 torn)
  bytes : W.cell? ⟨b, 0, none⟩ = some (.int .i64 bytes)
  row : ∃ v, W.cell? ⟨k, 0, none⟩ = some v ∧ HasRow W v 1 keep.length (keep.map Value.bool)
set_option maxHeartbeats 400000 in
theorem part_any (t b k : Nat) (keep : List Bool) (torn bytes : Int) (i : Nat) (w : World) (h : PartBox w t b k keep torn bytes) (hb : -9223372036854775808 ≤ bytes ∧ bytes ≤ 9223372036854775807) (hi : i ≤ 9223372036854775807) :
    Calls Try.prog 24 #[.int .i64 (i : Int), .pointer (some ⟨t, 0, none⟩), .pointer (some ⟨b, 0, none⟩), .pointer (some ⟨k, 0, none⟩)] w fun e w' => e = .returned (.int .i64 ((partN keep torn bytes i : Nat) : Int)) ∧ w' = w := by
  obtain ⟨h1, h2, v, h3, hr⟩ := h
  obtain ⟨o, cap, rfl, hnc, hcm⟩ := HasRow.slice hr
  by_cases ht : (i : Int) = torn
  · have ht' : ((i : Int) == torn) = true := by simpa using ht
    have HE : Hid ((partN keep torn bytes i : Int) = min (max bytes 0) 128) := by show _ = _; rw [partN, if_pos ht]; omega
    clear hr ht
    go_enter Try.func24, Try.ntmps24
    go_wp2
    go_ret
    refine ⟨ret_i2 ?_, rfl⟩
    rw [HE.out]
  · have ht' : ((i : Int) == torn) = false := by simpa using ht
    by_cases hk : i < keep.length
    · obtain ⟨_, kb, ki, rfl, hkb, hc⟩ := HasRow.at hr (by omega)
      have hci := hc i (by omega)
      rw [List.getElem?_map, List.getElem?_eq_getElem hk, Option.map_some] at hci
      have hlt : decide ((i : Int) < (keep.length : Int)) = true := by simp; omega
      have HE : Hid ((partN keep torn bytes i : Int) = if keep[i] then 128 else 0) := by
        show _ = _; rw [partN, if_neg ht]; simp only [List.getD_eq_getElem?_getD, List.getElem?_eq_getElem hk, Option.getD_some]; split <;> rfl
      generalize keep[i] = r at hci HE
      have hn9 : keep.length ≤ 9223372036854775807 := by omega
      clear hr ht hc
      generalize keep.length = n at *
      cases r with
      | true =>
        go_enter Try.func24, Try.ntmps24
        go_wp2
        go_ret
        exact ⟨ret_i2 (by rw [HE.out]; rfl), rfl⟩
      | false =>
        go_enter Try.func24, Try.ntmps24
        go_wp2
        go_ret
        exact ⟨ret_i2 (by rw [HE.out]; rfl), rfl⟩
    · have HE : Hid ((partN keep torn bytes i : Int) = 0) := by
        show _ = _; rw [partN, if_neg ht]; simp only [List.getD_eq_getElem?_getD, List.getElem?_eq_none (by omega : keep.length ≤ i), Option.getD_none]; rfl
      have hlt : decide ((i : Int) < (keep.length : Int)) = false := by simp; omega
      have hn9 : keep.length ≤ 9223372036854775807 := by omega
      clear hr ht
      generalize keep.length = n at *
      go_enter Try.func24, Try.ntmps24
      go_wp2
      go_ret
      exact ⟨ret_i2 (by rw [HE.out]), rfl⟩
end Go.Proofs.Ytoigogjklhahkaa.Disk
