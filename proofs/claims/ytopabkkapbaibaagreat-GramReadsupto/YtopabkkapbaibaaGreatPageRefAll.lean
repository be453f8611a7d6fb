/- What the document's Eight, Number, Zeros, Put, Tag, Get return, for every input. -/
import Derived.Test.YtopabkkapbaibaaGreatShelf
import Derived.Test.YtopabkkapbaibaaGreatPageMath
import Derived.WalkKit
import Derived.WalkSmall
import Derived.Laws.IdiomStrings
import Derived.Laws.ResultCell
import Derived.RegionTactic
import Derived.Deep.RegionWith
import Derived.BigRegion
import Derived.ChangeAlike
import Derived.BigQuiet
import Derived.Deep.QuietTactic
import Derived.Handy
import Derived.Lib.BufferWrite
import Derived.Laws.CopyRow
import Derived.RangeFuncRecord
import Derived.OwnWalk
set_option linter.unusedVariables false
namespace Go.Proofs.YtopabkkapbaibaaGreat.Page
open Go.RowKit

theorem ret_int {k : IntKind} {a b : Int} (h : a = b) : Ending.returned (.int k a) = .returned (.int k b) := by rw [h]
theorem ret_str {a b : ByteArray} (h : a = b) : Ending.returned (.string a) = .returned (.string b) := by rw [h]
theorem ret_strs {a b : ByteArray} {y : Int} (h : a = b) : Ending.returned (.tuple #[.string a, .int .i64 y]) = .returned (.tuple #[.string b, .int .i64 y]) := by rw [h]
theorem below2 {a b c : World} (h1 : Below a.heap.size a b) (h2 : Below b.heap.size b c) : Below a.heap.size a c := h1.trans (h2.mono h1.size)
theorem str_list (s : ByteArray) : ∃ l : List UInt8, s = ⟨l.toArray⟩ ∧ l.length = s.size := ⟨s.data.toList, by cases s; simp, by simp⟩
theorem size_list (l : List UInt8) : (⟨l.toArray⟩ : ByteArray).size = l.length := by show l.toArray.size = _; simp
theorem str_app (a b : List UInt8) : (⟨a.toArray⟩ ++ ⟨b.toArray⟩ : ByteArray) = ⟨(a ++ b).toArray⟩ := by
  apply ByteArray.ext
  rw [ByteArray.data_append]
  simp
theorem extract_drop (s : ByteArray) (k : Nat) : s.extract k s.size = ⟨(s.data.toList.drop k).toArray⟩ := by
  apply ByteArray.ext
  rw [ByteArray.data_extract]
  apply Array.ext'
  simp [List.take_of_length_le]
theorem extract_take (s : ByteArray) (k : Nat) : s.extract 0 k = ⟨(s.data.toList.take k).toArray⟩ := by
  apply ByteArray.ext
  rw [ByteArray.data_extract]
  apply Array.ext'
  simp
theorem addr_add (b o j : Nat) : (⟨b, o, none⟩ : Addr).add j = ⟨b, o + j, none⟩ := by unfold Addr.add; split <;> simp_all
theorem bcell {W w1 : World} (hb : Below W.heap.size W w1) : (∀ b o, b < W.heap.size → w1.cell? ⟨b, o, none⟩ = W.cell? ⟨b, o, none⟩) ∧ (∀ b o, b < W.heap.size → w1.frozen? ⟨b, o, none⟩ = W.frozen? ⟨b, o, none⟩) :=
  ⟨fun b o h => hb.cell (p := ⟨b, o, none⟩) h, fun b o h => hb.frozen (p := ⟨b, o, none⟩) h⟩

/-- bytes as cells -/
def cellsL (l : List UInt8) : List Value := l.map fun b => Value.int .u8 (b.toNat : Int)
/-- a block that is a row of cells -/
def RowAt (W : World) (g : Nat) (cs : List Value) (t : TypeId) : Prop := W.heap[g]? = some (.cells cs.toArray t (0, 0))
theorem RowAt.lt {W : World} {g : Nat} {cs : List Value} {t : TypeId} (h : RowAt W g cs t) : g < W.heap.size := (Array.getElem?_eq_some_iff.1 h).1
theorem RowAt.cell {W : World} {g : Nat} {cs : List Value} {t : TypeId} (h : RowAt W g cs t) (k : Nat) : W.cell? ⟨g, k, none⟩ = cs[k]? := by
  unfold RowAt at h; simp [World.cell?, h]
theorem RowAt.frozen {W : World} {g : Nat} {cs : List Value} {t : TypeId} (h : RowAt W g cs t) (k : Nat) : W.frozen? ⟨g, k, none⟩ = false := by
  unfold RowAt at h; simp [World.frozen?, h]
theorem RowAt.below {W W' : World} {g : Nat} {cs : List Value} {t : TypeId} (h : RowAt W g cs t) (hb : Below W.heap.size W W') : RowAt W' g cs t := (hb.block g h.lt).trans h
theorem RowAt.drew {W : World} {g : Nat} {cs : List Value} {t : TypeId} (h : RowAt W g cs t) : RowAt W.drew g cs t := h
theorem RowAt.new (W : World) (cs : List Value) (t : TypeId) : RowAt (W.alloc (.cells cs.toArray t)) W.heap.size cs t := World.alloc_heap_new W _
theorem RowAt.alloc {W : World} {g : Nat} {cs : List Value} {t : TypeId} (h : RowAt W g cs t) (o : Obj) : RowAt (W.alloc o) g cs t := h.below ((Below.refl _ W).alloc (Nat.le_refl _) _)
theorem RowAt.set {W : World} {g : Nat} {cs : List Value} {t : TypeId} (h : RowAt W g cs t) (ds : List Value) : RowAt (W.setRow g ds.toArray) g ds t := setRow_heap W g cs.toArray ds.toArray t (0, 0) h
theorem RowAt.other {W : World} {g k : Nat} {cs : List Value} {t : TypeId} (h : RowAt W g cs t) (hne : g ≠ k) (ds : Array Value) : RowAt (W.setRow k ds) g cs t := by
  unfold RowAt at h ⊢
  simp only [World.setRow, Array.getElem?_modify]
  rw [if_neg (fun e => hne e.symm)]
  exact h
theorem below_setRow {B g : Nat} {w0 w : World} (hb : Below B w0 w) (hBg : B ≤ g) (cs : Array Value) : Below B w0 (w.setRow g cs) :=
  hb.trans ⟨rfl, rfl, rfl, by simp [World.setRow], fun k hk => by simp only [World.setRow, Array.getElem?_modify]; rw [if_neg (by omega)]⟩
theorem RowAt.setCell {W : World} {g : Nat} {cs : List Value} {t : TypeId} (h : RowAt W g cs t) (k : Nat) (v : Value) : W.setCell ⟨g, k, none⟩ v = W.setRow g (cs.set k v).toArray := by
  rw [setCell_eq_setRow W g k cs.toArray t (0, 0) v h]
  congr 1
  simp
theorem cellsL_len (l : List UInt8) : (cellsL l).length = l.length := by simp [cellsL]
theorem cellsL_app (a b : List UInt8) : cellsL (a ++ b) = cellsL a ++ cellsL b := by simp [cellsL]
theorem cellsL_one (l : List UInt8) : ∀ v ∈ cellsL l, v.oneCell' = true := by
  intro v hv
  obtain ⟨b, _, rfl⟩ := List.mem_map.1 hv
  rfl
theorem size_u8 : (Tryz.prog.info? 5).map (·.size) = some 1 := by kernel_rfl
/-- 'copy' of the eight cells of one block into another one -/
theorem copy8 {W : World} {g k : Nat} {cs ds : List Value} {t u : TypeId} (hg : RowAt W g cs t) (hk : RowAt W k ds u) (o d : Nat) (hd : 8 ≤ d) (h8 : ds.length = 8) (hfit : o + 8 ≤ cs.length) (h1 : ∀ v ∈ ds, v.oneCell' = true) (ty : TypeId) :
    (Builtin.copy_ #[70, 70] ty #[.slice (some ⟨g, o, none⟩) d d, .slice (some ⟨k, 0, none⟩) 8 8]).run Tryz.prog W = .ok (.int .i64 8) (W.setRow g (cs.take o ++ ds ++ cs.drop (o + 8)).toArray) := by
  have h := run_copy_row (P := Tryz.prog) W 70 70 ty 5 g o d d ⟨k, 0, none⟩ 8 8 cs.toArray t ds Tryz.underlying70 size_u8 hg (by rw [h8]; exact (Nat.min_eq_left hd).symm)
    (fun j v hj => by rw [addr_add, Nat.zero_add, hk.cell, hj]) (by simp; omega) h1
  rw [h, h8]
  rfl
theorem copyS {W : World} {g : Nat} {cs : List Value} {t : TypeId} (hg : RowAt W g cs t) (l : List UInt8) (o d : Nat) (hd : l.length ≤ d) (hfit : o + l.length ≤ cs.length) (ty : TypeId) :
    (Builtin.copy_ #[70, 9] ty #[.slice (some ⟨g, o, none⟩) d d, .string ⟨l.toArray⟩]).run Tryz.prog W = .ok (.int .i64 (l.length : Int)) (W.setRow g (cs.take o ++ cellsL l ++ cs.drop (o + l.length)).toArray) := by
  have h := Lib.run_copy_row_string (P := Tryz.prog) W 70 9 ty 5 g o d d ⟨l.toArray⟩ cs.toArray t Tryz.underlying70 size_u8 hg (by rw [size_list]; exact hd) (by rw [size_list]; simpa using hfit)
  rw [size_list] at h
  rw [h]
  rfl
theorem conv_row {W : World} {g : Nat} {t : TypeId} (l : List UInt8) (hg : RowAt W g (cellsL l) t) (c : Nat) :
    (convert 70 9 (.slice (some ⟨g, 0, none⟩) l.length c)).run Tryz.prog W = .ok (.string ⟨l.toArray⟩) W :=
  run_convert_bytes_back (P := Tryz.prog) W 70 9 5 ⟨g, 0, none⟩ c l Tryz.underlying70 Tryz.underlying5 Tryz.underlying9 (fun j hj => by
    rw [addr_add, Nat.zero_add, hg.cell, cellsL, List.getElem?_map, List.getElem?_eq_getElem hj]; rfl)
/-- a page's cells, laid one by one -/
def zero8 : Value := .int .u8 0
def lay1 (e : List Value) : List Value := e ++ List.replicate 120 zero8
def lay2 (e : List Value) (m : Int) : List Value := e ++ .int .u8 m :: List.replicate 119 zero8
def lay3 (e : List Value) (m : Int) (d : List Value) : List Value := e ++ .int .u8 m :: (d ++ List.replicate (119 - d.length) zero8)
theorem lay_page (n : Nat) (l : List UInt8) (hl : l.length ≤ 111) : (lay3 (cellsL (eightL n)) (l.length : Int) (cellsL l)).take 120 ++ cellsL (eightL n) ++ (lay3 (cellsL (eightL n)) (l.length : Int) (cellsL l)).drop 128 = cellsL (pageL n l) := by
  have e1 : lay3 (cellsL (eightL n)) (l.length : Int) (cellsL l) = (cellsL (eightL n) ++ .int .u8 (l.length : Int) :: (cellsL l ++ List.replicate (111 - l.length) zero8)) ++ List.replicate 8 zero8 := by
    rw [lay3, cellsL_len, show 119 - l.length = (111 - l.length) + 8 by omega, List.replicate_append_replicate.symm]
    simp
  have hlen : (cellsL (eightL n) ++ .int .u8 (l.length : Int) :: (cellsL l ++ List.replicate (111 - l.length) zero8)).length = 120 := by
    simp [cellsL_len, eightL_len]; omega
  rw [e1, List.take_left' hlen, List.drop_of_length_le (by rw [List.length_append, hlen]; simp), List.append_nil, pageL]
  have e2 : ((UInt8.ofNat l.length).toNat : Int) = (l.length : Int) := by simp; omega
  simp only [cellsL, List.map_append, List.map_cons, List.map_replicate, e2, List.append_assoc, List.cons_append]
  rfl
end Go.Proofs.YtopabkkapbaibaaGreat.Page
namespace Go.Proofs.YtopabkkapbaibaaGreat.Page
open Go.RowKit

/-- what Put answers -/
def putL (t : Nat) (d : List UInt8) : List UInt8 × Int := if t = 0 then ([], 1) else if d.length ≤ 111 then (pageL t d, 0) else ([], 11)
theorem putL_zero (d : List UInt8) : putL 0 d = ([], 1) := rfl
theorem putL_long {t : Nat} {d : List UInt8} (h : t ≠ 0) (hd : ¬ d.length ≤ 111) : putL t d = ([], 11) := by rw [putL, if_neg h, if_neg hd]
theorem putL_ok {t : Nat} {d : List UInt8} (h : t ≠ 0) (hd : d.length ≤ 111) : putL t d = (pageL t d, 0) := by rw [putL, if_neg h, if_pos hd]
def StrIs (r : List UInt8 × Int) (w : World) (e : Ending) (w' : World) : Prop := e = .returned (.tuple #[.string ⟨r.1.toArray⟩, .int .i64 r.2]) ∧ Below w.heap.size w w'
def NumIs (r : Nat × Int) (w : World) (e : Ending) (w' : World) : Prop := e = .returned (.tuple #[.int .u64 (r.1 : Int), .int .i64 r.2]) ∧ Below w.heap.size w w'

theorem wraps64 (n : Int) (h₀ : 0 ≤ n) (h₁ : n < 2 ^ 64) : IntKind.u64.wrap n = n := by rw [IntKind.wrap_u64]; omega
theorem or_low (a : Int) (b : Int) (ha : 0 ≤ a) (ha1 : a < 72057594037927936) (hb : 0 ≤ b) (hb1 : b ≤ 255) : bits BinOp.or IntKind.u64 (a * 256) b = a * 256 + b :=
  bits_join .u64 64 (by decide) wraps64 8 (a * 256) b (by omega) (by omega) (by omega) hb (by omega) (by omega)
theorem pow_step (R j b : Nat) (h : R < 256 ^ j) (hb : b < 256) : 256 * R + b < 256 ^ (j + 1) := by
  rw [Nat.pow_succ]; omega
theorem pow_7 (R j : Nat) (h : R < 256 ^ j) (hj : j ≤ 7) : R < 72057594037927936 := by
  have : 256 ^ j ≤ 256 ^ 7 := Nat.pow_le_pow_right (by decide) hj
  omega
theorem eq_of {F T : ByteArray} (h : F = T) : (F.toList == T.toList) = true := by rw [h]; simp
theorem ne_of {F T : ByteArray} (h : F ≠ T) : (F.toList == T.toList) = false := by
  rw [ByteArray.toList_eq, ByteArray.toList_eq]
  apply beq_eq_false_iff_ne.2
  intro hc
  exact h (by cases F; cases T; simp at hc; rw [hc])
theorem arr_inj {a b : List UInt8} (h : (⟨a.toArray⟩ : ByteArray) = ⟨b.toArray⟩) : a = b := by simpa using h
theorem head_cons (s : ByteArray) (j : Nat) (h : j < 8) (hs : s.size = 128) : (s.data.toList.take 8).drop j = s[j] :: (s.data.toList.take 8).drop (j + 1) := by
  rw [List.drop_eq_getElem_cons (by simp; omega), List.getElem_take]; rfl
theorem getD_at (s : ByteArray) (h : 8 < s.size) : s.data.toList.getD 8 0 = s[8] := by
  rw [List.getD_eq_getElem?_getD, List.getElem?_eq_getElem (by simpa using h)]; rfl
theorem slice_lh {P : Program} (W : World) {t : TypeId} (s : ByteArray) (ht : P.underlying t = some .string) (l h : Int) (h0 : 0 ≤ l) (h1 : l ≤ h) (h2 : h ≤ s.size) :
    (Instr.slice t (.string s) (some (.int .i64 l)) (some (.int .i64 h)) none).run P W = .ok (.string (s.extract l.toNat h.toNat)) W := by
  have h3 : 0 ≤ h := by omega
  have h4 : ¬ max h 0 < l := by omega
  simp [Instr.slice, run_underlying ht, Instr.sliceBounds, run_sliceBound_if, *]
theorem extract_mid (s : ByteArray) (m : Nat) : s.extract 9 (9 + m) = ⟨((s.data.toList.drop 9).take m).toArray⟩ := by
  apply ByteArray.ext
  rw [ByteArray.data_extract]
  apply Array.toList_inj.1
  simp
theorem clone_any (s : ByteArray) (w : World) (hs : s.size ≤ 281474976710656) :
    Calls Tryz.prog 18 #[.string s] w fun e w' => e = .returned (.string s) ∧ Below w.heap.size w w' := by
  go_enter Tryz.func18, Tryz.ntmps18
  go_wp2_with (go_at_call 29; refine (Tryz.stringslite_Clone s _ hs).mono ?_; rintro e w1 ⟨rfl, hb⟩)
  go_ret
  exact ⟨rfl, hb⟩
end Go.Proofs.YtopabkkapbaibaaGreat.Page
namespace Go.Proofs.YtopabkkapbaibaaGreat.Page
open Go.RowKit

theorem info_u8 : (Tryz.prog.info? 5).map (fun i => (i.zero, i.size, i.bytes)) = some (some (.int .u8 0), 1, 1) := by kernel_rfl
/-- 'make([]byte, n)' -/
theorem make_bytes (w : World) (n : Nat) (h : n ≤ 1000000) (kl kc : IntKind) : (Instr.makeSlice 70 (.int kl (n : Int)) (.int kc (n : Int))).run Tryz.prog w = .ok (.slice (some ⟨w.heap.size, 0, none⟩) n n) (w.alloc (.cells (List.replicate n zero8).toArray 5)) := by
  obtain ⟨i0, hi, hz0, hz1, hz2⟩ := info_parts info_u8
  have hr := run_make (P := Tryz.prog) w 70 5 i0 (.int .u8 0) Tryz.underlying70 hi hz0 kl kc n n (by omega) (Int.le_refl _) (by rw [hz2]; omega) (by omega)
  rw [hr, hz1, Int.toNat_natCast, Nat.mul_one]
  have e : madeCells (Value.int .u8 0).cells n = (List.replicate n zero8).toArray := by
    apply Array.ext'
    exact toList_madeCells_one (.int .u8 0) n
  rw [e]
theorem make8 (w : World) : (Instr.makeSlice 70 (.int .i64 8) (.int .i64 8)).run Tryz.prog w = .ok (.slice (some ⟨w.heap.size, 0, none⟩) 8 8) (w.alloc (.cells #[.int .u8 0, .int .u8 0, .int .u8 0, .int .u8 0, .int .u8 0, .int .u8 0, .int .u8 0, .int .u8 0] 5)) := make_bytes w 8 (by omega) .i64 .i64
theorem conv8 (W : World) (g : Nat) (l : List UInt8) (hl : l.length = 8) (hg : RowAt W g (cellsL l) 5) :
    (convert 70 9 (.slice (some ⟨g, 0, none⟩) 8 8)).run Tryz.prog W = .ok (.string ⟨l.toArray⟩) W := by
  have := conv_row l hg 8
  rw [hl] at this
  exact this
set_option maxRecDepth 20000 in
set_option maxHeartbeats 1000000 in
theorem reight_any (n : Nat) (w : World) (h : n < 18446744073709551616) :
    Calls Tryz.prog 89 #[.int .u64 (n : Int)] w fun e w' => e = .returned (.string ⟨(eightL n).toArray⟩) ∧ Below w.heap.size w w' := by
  have hi : (n : Int) ≤ 18446744073709551615 := by omega
  have hi0 : (0 : Int) ≤ (n : Int) := by omega
  have hm := make8 w
  clear h
  go_enter Tryz.func89, Tryz.ntmps89
  go_wp2
  refine wp_loop_rounds 9 ?_
  repeat any_goals (rw [rounds_succ]; go_wp2_with fail)
  obtain ⟨W, hW⟩ : ∃ W, W = w.alloc (Obj.cells #[Value.int .u8 ((n : Int) / 256 / 256 / 256 / 256 / 256 / 256 / 256 % 256), .int .u8 ((n : Int) / 256 / 256 / 256 / 256 / 256 / 256 % 256), .int .u8 ((n : Int) / 256 / 256 / 256 / 256 / 256 % 256), .int .u8 ((n : Int) / 256 / 256 / 256 / 256 % 256), .int .u8 ((n : Int) / 256 / 256 / 256 % 256), .int .u8 ((n : Int) / 256 / 256 % 256), .int .u8 ((n : Int) / 256 % 256), .int .u8 ((n : Int) % 256)] 5) := ⟨_, rfl⟩
  rw [← hW]
  have hB : Below w.heap.size w W := by rw [hW]; exact (Below.refl _ w).alloc (Nat.le_refl _) _
  have hr : RowAt W w.heap.size (cellsL (eightL n)) 5 := by
    rw [hW]
    have : (cellsL (eightL n)).toArray = #[Value.int .u8 ((n : Int) / 256 / 256 / 256 / 256 / 256 / 256 / 256 % 256), .int .u8 ((n : Int) / 256 / 256 / 256 / 256 / 256 / 256 % 256), .int .u8 ((n : Int) / 256 / 256 / 256 / 256 / 256 % 256), .int .u8 ((n : Int) / 256 / 256 / 256 / 256 % 256), .int .u8 ((n : Int) / 256 / 256 / 256 % 256), .int .u8 ((n : Int) / 256 / 256 % 256), .int .u8 ((n : Int) / 256 % 256), .int .u8 ((n : Int) % 256)] := by
      simp [cellsL, eightL]
      omega
    rw [← this]
    exact RowAt.new w _ _
  have hc := conv8 W w.heap.size (eightL n) rfl hr
  clear hW hr hm
  rw [hc]
  go_wp2
  go_ret
  exact ⟨rfl, hB⟩
theorem zeros_any (n : Nat) (w : World) (h : n ≤ 1000000) :
    Calls Tryz.prog 35 #[.int .i64 (n : Int)] w fun e w' => e = .returned (.string ⟨(List.replicate n 0).toArray⟩) ∧ Below w.heap.size w w' := by
  have hm := make_bytes w n h .i64 .i64
  obtain ⟨W, hW⟩ : ∃ W, W = w.alloc (.cells (List.replicate n zero8).toArray 5) := ⟨_, rfl⟩
  have hB : Below w.heap.size w W := by rw [hW]; exact (Below.refl _ w).alloc (Nat.le_refl _) _
  have hr : RowAt W w.heap.size (cellsL (List.replicate n 0)) 5 := by
    rw [hW, show cellsL (List.replicate n 0) = List.replicate n zero8 by simp [cellsL, zero8]]
    exact RowAt.new w _ _
  have hc := conv_row _ hr n
  rw [List.length_replicate] at hc
  rw [← hW] at hm
  clear hW hr
  go_enter Tryz.func35, Tryz.ntmps35
  go_wp2
  go_ret
  exact ⟨ret_str (by simp), hB⟩
set_option maxHeartbeats 1000000 in
theorem rnumber_core (s : ByteArray) (w : World) (hs : s.size ≤ 8) :
    Calls Tryz.prog 36 #[.string s] w fun e w' => e = .returned (.int .u64 (numL 0 s.data.toList : Int)) ∧ w' = w := by
  go_enter Tryz.func36, Tryz.ntmps36
  go_wp2
  go_loop [3, 4] (fun t i => ∃ j R : Nat, j ≤ s.size ∧ Hid (R < 256 ^ j) ∧ i = .int .i64 j ∧ t = .int .u64 (R : Int) ∧ Hid (numL 0 s.data.toList = numL R (s.data.toList.drop j))) (fun _ i => s.size - (intOf i).toNat)
  case atStart => exact ⟨0, 0, by omega, (by decide : 0 < 256 ^ 0), rfl, rfl, (rfl : numL 0 _ = _)⟩
  case round =>
    obtain ⟨j, R, hj, HR, rfl, rfl, HG⟩ := hrel
    by_cases hlt : j < s.size
    · have HD : Hid (s.data.toList.drop j = s[j] :: s.data.toList.drop (j + 1)) := by
        show _ = _
        rw [List.drop_eq_getElem_cons (by simpa using hlt)]; rfl
      have hRi : (R : Int) ≤ 72057594037927935 := by have := pow_7 R j HR.out (by omega); omega
      have hbi : ((s[j]).toNat : Int) ≤ 255 := by have := (s[j]).toNat_lt; omega
      go_wp2
      go_round
      case rel =>
        refine ⟨j + 1, 256 * R + (s[j]).toNat, by omega, pow_step R j _ HR.out (by have := (s[j]).toNat_lt; omega), by go_num, ?_, ?_⟩
        · congr 1
        · show _ = _
          rw [HG.out, HD.out, numL]
      case measure => simp [intOf]; omega
    · obtain rfl : j = s.size := by omega
      have HE : Hid (numL 0 s.data.toList = R) := by show _ = _; rw [HG.out, List.drop_of_length_le (by simp)]; rfl
      go_wp2
      go_ret
      exact ⟨by rw [HE.out]; rfl, rfl⟩
theorem rnumber_any (l : List UInt8) (w : World) (hl : l.length ≤ 8) :
    Calls Tryz.prog 36 #[.string ⟨l.toArray⟩] w fun e w' => e = .returned (.int .u64 (numL 0 l : Int)) ∧ w' = w := by
  have := rnumber_core ⟨l.toArray⟩ w (by rw [size_list]; exact hl)
  simpa using this
end Go.Proofs.YtopabkkapbaibaaGreat.Page
