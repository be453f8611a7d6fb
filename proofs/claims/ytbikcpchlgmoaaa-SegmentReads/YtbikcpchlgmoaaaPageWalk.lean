/- What page.bytesOf, laid, Put, Tag, within, Get and the document's return, for every input. -/
import Derived.Test.YtbikcpchlgmoaaaShelf
import Derived.Test.YtbikcpchlgmoaaaPageMath
import Derived.WalkKit
import Derived.WalkSmall
import Derived.Laws.IdiomStrings
import Derived.Laws.ResultCell
import Derived.RegionTactic
import Derived.Deep.RegionWith
import Derived.BigRegion
import Derived.ChangeAlike
import Derived.BigQuiet
import Derived.Deep.QuietTactic
import Derived.Handy
import Derived.Lib.BufferWrite
import Derived.Laws.CopyRow
import Derived.RangeFuncRecord
set_option linter.unusedVariables false
namespace Go.Proofs.Ytbikcpchlgmoaaa.Page
open Go.RowKit

theorem ret_int {k : IntKind} {a b : Int} (h : a = b) : Ending.returned (.int k a) = .returned (.int k b) := by rw [h]
theorem ret_str {a b : ByteArray} (h : a = b) : Ending.returned (.string a) = .returned (.string b) := by rw [h]
theorem ret_strs {a b : ByteArray} {y : Int} (h : a = b) : Ending.returned (.tuple #[.string a, .int .i64 y]) = .returned (.tuple #[.string b, .int .i64 y]) := by rw [h]
theorem below2 {a b c : World} (h1 : Below a.heap.size a b) (h2 : Below b.heap.size b c) : Below a.heap.size a c := h1.trans (h2.mono h1.size)
theorem str_list (s : ByteArray) : ∃ l : List UInt8, s = ⟨l.toArray⟩ ∧ l.length = s.size := ⟨s.data.toList, by cases s; simp, by simp⟩
theorem size_list (l : List UInt8) : (⟨l.toArray⟩ : ByteArray).size = l.length := by show l.toArray.size = _; simp
theorem str_app (a b : List UInt8) : (⟨a.toArray⟩ ++ ⟨b.toArray⟩ : ByteArray) = ⟨(a ++ b).toArray⟩ := by
  apply ByteArray.ext
  rw [ByteArray.data_append]
  simp
theorem extract_drop (s : ByteArray) (k : Nat) : s.extract k s.size = ⟨(s.data.toList.drop k).toArray⟩ := by
  apply ByteArray.ext
  rw [ByteArray.data_extract]
  apply Array.ext'
  simp [List.take_of_length_le]
theorem extract_take (s : ByteArray) (k : Nat) : s.extract 0 k = ⟨(s.data.toList.take k).toArray⟩ := by
  apply ByteArray.ext
  rw [ByteArray.data_extract]
  apply Array.ext'
  simp
theorem addr_add (b o j : Nat) : (⟨b, o, none⟩ : Addr).add j = ⟨b, o + j, none⟩ := by unfold Addr.add; split <;> simp_all
theorem bcell {W w1 : World} (hb : Below W.heap.size W w1) : (∀ b o, b < W.heap.size → w1.cell? ⟨b, o, none⟩ = W.cell? ⟨b, o, none⟩) ∧ (∀ b o, b < W.heap.size → w1.frozen? ⟨b, o, none⟩ = W.frozen? ⟨b, o, none⟩) :=
  ⟨fun b o h => hb.cell (p := ⟨b, o, none⟩) h, fun b o h => hb.frozen (p := ⟨b, o, none⟩) h⟩

/-- bytes as cells -/
def cellsL (l : List UInt8) : List Value := l.map fun b => Value.int .u8 (b.toNat : Int)
set_option maxRecDepth 20000 in
set_option maxHeartbeats 1000000 in
theorem bytesOf_any (n : Nat) (w : World) (h : n < 18446744073709551616) :
    Calls Try.prog 103 #[.int .u64 (n : Int)] w fun e w' => e = .returned (.agg (cellsL (eightL n)).toArray) ∧ Below w.heap.size w w' := by
  have hi : (n : Int) ≤ 18446744073709551615 := by omega
  have hi0 : (0 : Int) ≤ (n : Int) := by omega
  clear h
  go_enter Try.func103, Try.ntmps103
  go_wp2
  go_rounds 9
  go_returns
  refine ⟨?_, ?_⟩
  · refine congrArg (fun x => Ending.returned (.agg x)) ?_
    simp [cellsL, eightL]
    omega
  · exact ((Below.refl _ w).alloc (Nat.le_refl _) _).alloc (by simp) _

/-- a block that is a row of cells -/
def RowAt (W : World) (g : Nat) (cs : List Value) (t : TypeId) : Prop := W.heap[g]? = some (.cells cs.toArray t (0, 0))
theorem RowAt.lt {W : World} {g : Nat} {cs : List Value} {t : TypeId} (h : RowAt W g cs t) : g < W.heap.size := (Array.getElem?_eq_some_iff.1 h).1
theorem RowAt.cell {W : World} {g : Nat} {cs : List Value} {t : TypeId} (h : RowAt W g cs t) (k : Nat) : W.cell? ⟨g, k, none⟩ = cs[k]? := by
  unfold RowAt at h; simp [World.cell?, h]
theorem RowAt.frozen {W : World} {g : Nat} {cs : List Value} {t : TypeId} (h : RowAt W g cs t) (k : Nat) : W.frozen? ⟨g, k, none⟩ = false := by
  unfold RowAt at h; simp [World.frozen?, h]
theorem RowAt.below {W W' : World} {g : Nat} {cs : List Value} {t : TypeId} (h : RowAt W g cs t) (hb : Below W.heap.size W W') : RowAt W' g cs t := (hb.block g h.lt).trans h
theorem RowAt.drew {W : World} {g : Nat} {cs : List Value} {t : TypeId} (h : RowAt W g cs t) : RowAt W.drew g cs t := h
theorem RowAt.new (W : World) (cs : List Value) (t : TypeId) : RowAt (W.alloc (.cells cs.toArray t)) W.heap.size cs t := World.alloc_heap_new W _
theorem RowAt.alloc {W : World} {g : Nat} {cs : List Value} {t : TypeId} (h : RowAt W g cs t) (o : Obj) : RowAt (W.alloc o) g cs t := h.below ((Below.refl _ W).alloc (Nat.le_refl _) _)
theorem RowAt.set {W : World} {g : Nat} {cs : List Value} {t : TypeId} (h : RowAt W g cs t) (ds : List Value) : RowAt (W.setRow g ds.toArray) g ds t := setRow_heap W g cs.toArray ds.toArray t (0, 0) h
theorem RowAt.other {W : World} {g k : Nat} {cs : List Value} {t : TypeId} (h : RowAt W g cs t) (hne : g ≠ k) (ds : Array Value) : RowAt (W.setRow k ds) g cs t := by
  unfold RowAt at h ⊢
  simp only [World.setRow, Array.getElem?_modify]
  rw [if_neg (fun e => hne e.symm)]
  exact h
theorem below_setRow {B g : Nat} {w0 w : World} (hb : Below B w0 w) (hBg : B ≤ g) (cs : Array Value) : Below B w0 (w.setRow g cs) :=
  hb.trans ⟨rfl, rfl, rfl, by simp [World.setRow], fun k hk => by simp only [World.setRow, Array.getElem?_modify]; rw [if_neg (by omega)]⟩
theorem RowAt.setCell {W : World} {g : Nat} {cs : List Value} {t : TypeId} (h : RowAt W g cs t) (k : Nat) (v : Value) : W.setCell ⟨g, k, none⟩ v = W.setRow g (cs.set k v).toArray := by
  rw [setCell_eq_setRow W g k cs.toArray t (0, 0) v h]
  congr 1
  simp
theorem cellsL_len (l : List UInt8) : (cellsL l).length = l.length := by simp [cellsL]
theorem cellsL_app (a b : List UInt8) : cellsL (a ++ b) = cellsL a ++ cellsL b := by simp [cellsL]
theorem cellsL_one (l : List UInt8) : ∀ v ∈ cellsL l, v.oneCell' = true := by
  intro v hv
  obtain ⟨b, _, rfl⟩ := List.mem_map.1 hv
  rfl
theorem size_u8 : (Try.prog.info? 5).map (·.size) = some 1 := by kernel_rfl
/-- 'copy' of the eight cells of one block into another one -/
theorem copy8 {W : World} {g k : Nat} {cs ds : List Value} {t u : TypeId} (hg : RowAt W g cs t) (hk : RowAt W k ds u) (o d : Nat) (hd : 8 ≤ d) (h8 : ds.length = 8) (hfit : o + 8 ≤ cs.length) (h1 : ∀ v ∈ ds, v.oneCell' = true) (ty : TypeId) :
    (Builtin.copy_ #[65, 65] ty #[.slice (some ⟨g, o, none⟩) d d, .slice (some ⟨k, 0, none⟩) 8 8]).run Try.prog W = .ok (.int .i64 8) (W.setRow g (cs.take o ++ ds ++ cs.drop (o + 8)).toArray) := by
  have h := run_copy_row (P := Try.prog) W 65 65 ty 5 g o d d ⟨k, 0, none⟩ 8 8 cs.toArray t ds Try.underlying65 size_u8 hg (by rw [h8]; exact (Nat.min_eq_left hd).symm)
    (fun j v hj => by rw [addr_add, Nat.zero_add, hk.cell, hj]) (by simp; omega) h1
  rw [h, h8]
  rfl
theorem copyS {W : World} {g : Nat} {cs : List Value} {t : TypeId} (hg : RowAt W g cs t) (l : List UInt8) (o d : Nat) (hd : l.length ≤ d) (hfit : o + l.length ≤ cs.length) (ty : TypeId) :
    (Builtin.copy_ #[65, 9] ty #[.slice (some ⟨g, o, none⟩) d d, .string ⟨l.toArray⟩]).run Try.prog W = .ok (.int .i64 (l.length : Int)) (W.setRow g (cs.take o ++ cellsL l ++ cs.drop (o + l.length)).toArray) := by
  have h := Lib.run_copy_row_string (P := Try.prog) W 65 9 ty 5 g o d d ⟨l.toArray⟩ cs.toArray t Try.underlying65 size_u8 hg (by rw [size_list]; exact hd) (by rw [size_list]; simpa using hfit)
  rw [size_list] at h
  rw [h]
  rfl
theorem conv_row {W : World} {g : Nat} {t : TypeId} (l : List UInt8) (hg : RowAt W g (cellsL l) t) (c : Nat) :
    (convert 65 9 (.slice (some ⟨g, 0, none⟩) l.length c)).run Try.prog W = .ok (.string ⟨l.toArray⟩) W :=
  run_convert_bytes_back (P := Try.prog) W 65 9 5 ⟨g, 0, none⟩ c l Try.underlying65 Try.underlying5 Try.underlying9 (fun j hj => by
    rw [addr_add, Nat.zero_add, hg.cell, cellsL, List.getElem?_map, List.getElem?_eq_getElem hj]; rfl)
/-- a page's cells, laid one by one -/
def zero8 : Value := .int .u8 0
theorem zinfo : (Try.prog.info? 137).map (·.zero) = some (some (.agg (List.replicate 128 zero8).toArray)) := by kernel_rfl
theorem zero128 (w : World) : (zeroValue 137).run Try.prog w = .ok (.agg (List.replicate 128 zero8).toArray) w := by
  have h := zinfo
  cases hq : Try.prog.info? 137 with
  | none => rw [hq] at h; cases h
  | some i =>
    have hz : i.zero = some (.agg (List.replicate 128 zero8).toArray) := by rw [hq] at h; exact Option.some.inj h
    simp [zeroValue, typeInfo, hq, hz]
def lay1 (e : List Value) : List Value := e ++ List.replicate 120 zero8
def lay2 (e : List Value) (m : Int) : List Value := e ++ .int .u8 m :: List.replicate 119 zero8
def lay3 (e : List Value) (m : Int) (d : List Value) : List Value := e ++ .int .u8 m :: (d ++ List.replicate (119 - d.length) zero8)
theorem lay_page (n : Nat) (l : List UInt8) (hl : l.length ≤ 111) : (lay3 (cellsL (eightL n)) (l.length : Int) (cellsL l)).take 120 ++ cellsL (eightL n) ++ (lay3 (cellsL (eightL n)) (l.length : Int) (cellsL l)).drop 128 = cellsL (pageL n l) := by
  have e1 : lay3 (cellsL (eightL n)) (l.length : Int) (cellsL l) = (cellsL (eightL n) ++ .int .u8 (l.length : Int) :: (cellsL l ++ List.replicate (111 - l.length) zero8)) ++ List.replicate 8 zero8 := by
    rw [lay3, cellsL_len, show 119 - l.length = (111 - l.length) + 8 by omega, List.replicate_append_replicate.symm]
    simp
  have hlen : (cellsL (eightL n) ++ .int .u8 (l.length : Int) :: (cellsL l ++ List.replicate (111 - l.length) zero8)).length = 120 := by
    simp [cellsL_len, eightL_len]; omega
  rw [e1, List.take_left' hlen, List.drop_of_length_le (by rw [List.length_append, hlen]; simp), List.append_nil, pageL]
  have e2 : ((UInt8.ofNat l.length).toNat : Int) = (l.length : Int) := by simp; omega
  simp only [cellsL, List.map_append, List.map_cons, List.map_replicate, e2, List.append_assoc, List.cons_append]
  rfl
set_option maxRecDepth 20000 in
set_option maxHeartbeats 1000000 in
theorem laid_any (n : Nat) (l : List UInt8) (w : World) (h : n < 18446744073709551616) (hl : l.length ≤ 111) :
    Calls Try.prog 85 #[.int .u64 (n : Int), .string ⟨l.toArray⟩] w fun e w' => e = .returned (.string ⟨(pageL n l).toArray⟩) ∧ Below w.heap.size w w' := by
  have c1 := fun w => bytesOf_any n w h
  obtain ⟨a0, a1, a2, a3, a4, a5, a6, a7, ha⟩ : ∃ a0 a1 a2 a3 a4 a5 a6 a7 : Int, cellsL (eightL n) = [.int .u8 a0, .int .u8 a1, .int .u8 a2, .int .u8 a3, .int .u8 a4, .int .u8 a5, .int .u8 a6, .int .u8 a7] := ⟨_, _, _, _, _, _, _, _, rfl⟩
  have HP : Hid ((lay3 (cellsL (eightL n)) (l.length : Int) (cellsL l)).take 120 ++ cellsL (eightL n) ++ (lay3 (cellsL (eightL n)) (l.length : Int) (cellsL l)).drop 128 = cellsL (pageL n l)) := lay_page n l hl
  have HL : Hid ((pageL n l).length = 128) := pageL_len n l hl
  have HA := cellsL_one (eightL n)
  rw [ha] at c1 HP HA
  have H1 : Hid (∀ v ∈ [Value.int .u8 a0, .int .u8 a1, .int .u8 a2, .int .u8 a3, .int .u8 a4, .int .u8 a5, .int .u8 a6, .int .u8 a7], v.oneCell' = true) := HA
  clear ha HA h
  have hz : (⟨l.toArray⟩ : ByteArray).size = l.length := size_list l
  obtain ⟨S, hS⟩ : ∃ S : ByteArray, S = ⟨l.toArray⟩ := ⟨_, rfl⟩
  rw [← hS] at hz ⊢
  have hzi : S.size ≤ 111 := by omega
  have HS : Hid (S = ⟨l.toArray⟩ ∧ S.size = l.length) := ⟨hS, hz⟩
  clear hS hz
  have e0 : IntKind.u8.wrap (S.size : Int) = (S.size : Int) := by rw [IntKind.wrap_u8]; omega
  go_enter Try.func85, Try.ntmps85
  have hz128 := zero128
  obtain ⟨Z, hZ⟩ : ∃ Z : List Value, Z = List.replicate 128 zero8 := ⟨_, rfl⟩
  have HZ : Hid (Z = List.replicate 128 zero8) := hZ
  rw [← hZ] at hz128
  clear hZ
  go_wp2_with fail
  go_at_call 103; refine (c1 _).mono ?_; rintro e w1 ⟨rfl, hb1⟩
  go_wp2_with fail
  obtain ⟨E, hE⟩ : ∃ E : List Value, E = [.int .u8 a0, .int .u8 a1, .int .u8 a2, .int .u8 a3, .int .u8 a4, .int .u8 a5, .int .u8 a6, .int .u8 a7] := ⟨_, rfl⟩
  obtain ⟨X, hX⟩ : ∃ X, X = w1.alloc (Obj.cells #[Value.int .u8 a0, .int .u8 a1, .int .u8 a2, .int .u8 a3, .int .u8 a4, .int .u8 a5, .int .u8 a6, .int .u8 a7] 138) := ⟨_, rfl⟩
  rw [← hX]
  rw [← hE] at HP H1
  have hE8 : E.length = 8 := by rw [hE]; rfl
  have hw1 := hb1.size
  rw [World.size_alloc] at hw1
  have g0 : RowAt X w.heap.size Z 137 := by rw [hX]; exact ((RowAt.new w Z _).below hb1).alloc _
  have k0 : RowAt X w1.heap.size E 138 := by rw [hX, hE]; exact RowAt.new w1 _ _
  have B0 : Below w.heap.size w X := by
    rw [hX]
    exact (((Below.refl _ w).alloc (Nat.le_refl _) _).trans (hb1.mono (by simp))).alloc (by omega) _
  have hne : w1.heap.size ≠ w.heap.size := by omega
  clear hX hE hb1 c1 hz128
  have hZl : Z.length = 128 := by rw [HZ.out]; simp
  have r1 := copy8 g0.drew k0.drew 0 128 (by omega) hE8 (by omega) H1.out
  obtain ⟨X1, hX1⟩ : ∃ X1, X1 = X.drew.setRow w.heap.size (Z.take 0 ++ E ++ Z.drop (0 + 8)).toArray := ⟨_, rfl⟩
  rw [← hX1] at r1
  have e1 : Z.take 0 ++ E ++ Z.drop (0 + 8) = lay1 E := by rw [HZ.out, lay1]; simp
  rw [e1] at hX1
  have g1 : RowAt X1 w.heap.size (lay1 E) 137 := by rw [hX1]; exact g0.drew.set _
  have k1 : RowAt X1 w1.heap.size E 138 := by rw [hX1]; exact k0.drew.other hne _
  have B1 : Below w.heap.size w X1 := by rw [hX1]; exact below_setRow B0.drew (Nat.le_refl _) _
  have q1 : X1.cell? ⟨w.heap.size, 8, none⟩ = some zero8 := by rw [g1.cell, lay1, List.getElem?_append_right (by omega), hE8]; rfl
  have f1 := g1.frozen 8
  clear hX1 e1 g0 k0 B0 hZl HZ
  go_region
  go_wp2_with fail
  obtain ⟨X2, hX2⟩ : ∃ X2, X2 = X1.setCell ⟨w.heap.size, 8, none⟩ (.int .u8 (S.size : Int)) := ⟨_, rfl⟩
  rw [← hX2]
  rw [g1.setCell] at hX2
  have e2 : (lay1 E).set 8 (.int .u8 (S.size : Int)) = lay2 E (S.size : Int) := by
    rw [lay1, lay2, List.set_append_right _ _ (by omega), hE8]; rfl
  rw [e2] at hX2
  have g2 : RowAt X2 w.heap.size (lay2 E (S.size : Int)) 137 := by rw [hX2]; exact g1.set _
  have k2 : RowAt X2 w1.heap.size E 138 := by rw [hX2]; exact k1.other hne _
  have B2 : Below w.heap.size w X2 := by rw [hX2]; exact below_setRow B1 (Nat.le_refl _) _
  clear hX2 e2 g1 k1 B1 q1 f1
  have hl2 : (lay2 E (S.size : Int)).length = 128 := by simp [lay2, hE8]
  have r2 := copyS g2 l 9 119 (by omega) (by omega)
  obtain ⟨X3, hX3⟩ : ∃ X3, X3 = X2.setRow w.heap.size ((lay2 E (S.size : Int)).take 9 ++ cellsL l ++ (lay2 E (S.size : Int)).drop (9 + l.length)).toArray := ⟨_, rfl⟩
  rw [← hX3, ← HS.out.1, ← HS.out.2] at r2
  have e3 : (lay2 E (S.size : Int)).take 9 ++ cellsL l ++ (lay2 E (S.size : Int)).drop (9 + l.length) = lay3 E (l.length : Int) (cellsL l) := by
    rw [HS.out.2, lay2, lay3, show E ++ Value.int .u8 (l.length : Int) :: List.replicate 119 zero8 = (E ++ [.int .u8 (l.length : Int)]) ++ List.replicate 119 zero8 by simp, List.take_left' (by simp [hE8]), List.drop_append, List.drop_of_length_le (by simp [hE8]), cellsL_len, List.length_append, hE8, List.nil_append, List.drop_replicate, show 119 - (9 + l.length - (8 + [Value.int .u8 (l.length : Int)].length)) = 119 - l.length by simp only [List.length_singleton]; omega]
    simp only [List.append_assoc, List.cons_append, List.nil_append]
  rw [e3] at hX3
  have g3 : RowAt X3 w.heap.size (lay3 E (l.length : Int) (cellsL l)) 137 := by rw [hX3]; exact g2.set _
  have k3 : RowAt X3 w1.heap.size E 138 := by rw [hX3]; exact k2.other hne _
  have B3 : Below w.heap.size w X3 := by rw [hX3]; exact below_setRow B2 (Nat.le_refl _) _
  clear hX3 e3 g2 k2 B2 hl2
  have hl3 : (lay3 E (l.length : Int) (cellsL l)).length = 128 := by simp [lay3, hE8, cellsL_len]; omega
  have r3 := copy8 g3.drew k3.drew 120 8 (by omega) hE8 (by omega) H1.out
  obtain ⟨X4, hX4⟩ : ∃ X4, X4 = X3.drew.setRow w.heap.size ((lay3 E (l.length : Int) (cellsL l)).take 120 ++ E ++ (lay3 E (l.length : Int) (cellsL l)).drop (120 + 8)).toArray := ⟨_, rfl⟩
  rw [← hX4] at r3
  rw [HP.out] at hX4
  have g4 : RowAt X4 w.heap.size (cellsL (pageL n l)) 137 := by rw [hX4]; exact g3.drew.set _
  have B4 : Below w.heap.size w X4 := by rw [hX4]; exact below_setRow B3.drew (Nat.le_refl _) _
  have cv := conv_row (pageL n l) g4 128
  rw [HL.out] at cv
  clear hX4 g3 k3 B3 hl3 g4
  rw [r2]
  go_wp2_with fail
  go_region
  go_wp2
  go_ret
  exact ⟨rfl, B4⟩
end Go.Proofs.Ytbikcpchlgmoaaa.Page
