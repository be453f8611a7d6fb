/- Rows in memory, read and owned; a disk as plain data; what stays while memory grows. -/
import Derived.Test.YtoigogjklhahkaaShelf
import Derived.WalkKit
import Derived.WalkSmall
import Derived.Laws.IdiomStrings
import Derived.RegionTactic
import Derived.Deep.RegionWith
import Derived.BigRegion
import Derived.ChangeAlike
import Derived.BigQuiet
import Derived.Deep.QuietTactic
import Derived.Shelf.Abstract
import Derived.Shelf.RegionOpen
import Derived.OneCell
import Derived.Handy
set_option linter.unusedVariables false
namespace Go.Proofs.Ytoigogjklhahkaa.Disk
open Go.RowKit

theorem addr_add (b o j : Nat) : (⟨b, o, none⟩ : Addr).add j = ⟨b, o + j, none⟩ := by unfold Addr.add; split <;> simp_all
theorem below2 {a b c : World} (h1 : Below a.heap.size a b) (h2 : Below b.heap.size b c) : Below a.heap.size a c := h1.trans (h2.mono h1.size)
theorem bcell {W w1 : World} (hb : Below W.heap.size W w1) : (∀ b o, b < W.heap.size → w1.cell? ⟨b, o, none⟩ = W.cell? ⟨b, o, none⟩) ∧ (∀ b o, b < W.heap.size → w1.frozen? ⟨b, o, none⟩ = W.frozen? ⟨b, o, none⟩) :=
  ⟨fun b o h => hb.cell (p := ⟨b, o, none⟩) h, fun b o h => hb.frozen (p := ⟨b, o, none⟩) h⟩
theorem grown_of {w w' : World} (h : Below w.heap.size w w') : w.grownBy w' none := ⟨h.os, h.tape, h.output, h.size, fun k hk _ => h.block k hk⟩
theorem below_of {w w' : World} (h : w.grownBy w' none) : Below w.heap.size w w' := ⟨h.os, h.tape, h.output, h.size, fun k hk => h.block k hk (by simp)⟩
theorem grown2 {a b c : World} {r : Option Nat} (h1 : a.grownBy b r) (h2 : b.grownBy c r) : a.grownBy c r :=
  ⟨h2.os.trans h1.os, h2.tape.trans h1.tape, h2.output.trans h1.output, Nat.le_trans h1.size h2.size, fun k hk hn => (h2.block k (Nat.lt_of_lt_of_le hk h1.size) hn).trans (h1.block k hk hn)⟩
theorem grown_drew (w : World) (r : Option Nat) : w.grownBy w.drew r := ⟨rfl, rfl, rfl, Nat.le_refl _, fun _ _ _ => rfl⟩
theorem grown_drewN (w : World) (n : Nat) (r : Option Nat) : w.grownBy (w.drewN n) r := ⟨rfl, rfl, rfl, Nat.le_refl _, fun _ _ _ => rfl⟩
theorem grown_any {a b : World} (h : a.grownBy b none) (r : Option Nat) : a.grownBy b r := ⟨h.os, h.tape, h.output, h.size, fun k hk _ => h.block k hk (by simp)⟩
theorem grown_set (W : World) (b o : Nat) (v : Value) : W.grownBy (W.setCell ⟨b, o, none⟩ v) (some b) :=
  ⟨rfl, rfl, rfl, by simp [World.setCell], fun k hk hn => by simp only [World.setCell, Array.getElem?_modify]; rw [if_neg (fun e => hn (by rw [e]))]⟩
theorem size_set (W : World) (a : Addr) (v : Value) : (W.setCell a v).heap.size = W.heap.size := by simp [World.setCell]
theorem str_list (s : ByteArray) : ∃ l : List UInt8, s = ⟨l.toArray⟩ ∧ l.length = s.size := ⟨s.data.toList, by cases s; simp, by simp⟩
theorem size_list (l : List UInt8) : (⟨l.toArray⟩ : ByteArray).size = l.length := by show l.toArray.size = _; simp
def strV (p : List UInt8) : Value := .string ⟨p.toArray⟩
theorem clone_any (s : ByteArray) (w : World) (hs : s.size ≤ 281474976710656) :
    Calls Try.prog 30 #[.string s] w fun e w' => e = .returned (.string s) ∧ Below w.heap.size w w' := by
  go_enter Try.func30, Try.ntmps30
  go_wp2_with (go_at_call 47; refine (Try.stringslite_Clone s _ hs).mono ?_; rintro e w1 ⟨rfl, hb⟩)
  go_ret
  exact ⟨rfl, hb⟩

/-- a row that lies in memory: n elements of sz cells each -/
def HasRow (W : World) (v : Value) (sz n : Nat) (cs : List Value) : Prop :=
  cs.length = n * sz ∧ ((v = .slice none 0 0 ∧ n = 0) ∨ ∃ a cap, v = .slice (some a) n cap ∧ n ≤ cap ∧ cap ≤ 9223372036854775807 ∧ (0 < n → a.spot = none ∧ a.block < W.heap.size) ∧ ∀ j, j < n * sz → W.cell? (a.add j) = cs[j]?)
theorem hasRow_nil (W : World) (sz : Nat) : HasRow W (.slice none 0 0) sz 0 [] := ⟨by simp, .inl ⟨rfl, rfl⟩⟩
theorem hasRow_own {W : World} {B e sz n : Nat} {v : Value} {cs : List Value} (h : W.ownsRow B e sz v n cs) : HasRow W v sz n cs := by
  refine ⟨h.1, ?_⟩
  rcases h.2 with h0 | ⟨g, cap, cur, rfl, hg, hgb, hnc, hcm, rest⟩
  · exact .inl h0
  · refine .inr ⟨⟨g, 0, none⟩, cap, rfl, hnc, by unfold maxLen at hcm; exact hcm, fun _ => ⟨rfl, (Array.getElem?_eq_some_iff.1 hgb).1⟩, fun j hj => ?_⟩
    rw [← h.cellAt j hj, addr_add, Nat.zero_add]
theorem HasRow.keep' {W W' : World} {v : Value} {sz n : Nat} {cs : List Value} (h : HasRow W v sz n cs) (hb : Below W.heap.size W W') : HasRow W' v sz n cs := by
  refine ⟨h.1, ?_⟩
  rcases h.2 with h0 | ⟨a, cap, e, h1, h2, h3, h4⟩
  · exact .inl h0
  · refine .inr ⟨a, cap, e, h1, h2, fun h => ⟨(h3 h).1, Nat.lt_of_lt_of_le (h3 h).2 hb.size⟩, fun j hj => ?_⟩
    have hn : 0 < n := by rcases Nat.eq_zero_or_pos n with h0 | h0; rw [h0] at hj; omega; exact h0
    obtain ⟨b, i, s⟩ := a
    obtain ⟨hs, hlt⟩ := h3 hn
    simp only at hs hlt
    subst hs
    have h5 := h4 j hj
    rw [addr_add] at h5 ⊢
    rw [← h5]
    exact hb.cell (p := ⟨b, i + j, none⟩) hlt
/-- a block of another kind may be written: a row with a text in each element does not lie there -/
theorem HasRow.grown {W W' : World} {v : Value} {sz n : Nat} {cs : List Value} {B : Nat} (h : HasRow W v sz n cs) (hg : W.grownBy W' (some B)) (hB : ∀ j, j < cs.length → ∀ o, W.cell? ⟨B, o, none⟩ ≠ cs[j]?) : HasRow W' v sz n cs := by
  refine ⟨h.1, ?_⟩
  rcases h.2 with h0 | ⟨a, cap, e, h1, h2, h3, h4⟩
  · exact .inl h0
  · refine .inr ⟨a, cap, e, h1, h2, fun h => ⟨(h3 h).1, Nat.lt_of_lt_of_le (h3 h).2 hg.size⟩, fun j hj => ?_⟩
    have hn : 0 < n := by rcases Nat.eq_zero_or_pos n with h0 | h0; rw [h0] at hj; omega; exact h0
    obtain ⟨b, i, s⟩ := a
    obtain ⟨hs, hlt⟩ := h3 hn
    simp only at hs hlt
    subst hs
    have h5 := h4 j hj
    rw [addr_add] at h5 ⊢
    have hne : b ≠ B := by
      intro e
      subst e
      exact hB j (by rw [h.1]; exact hj) (i + j) h5
    rw [← h5]
    exact World.cell?_of_block (w := W) (hg.block b hlt (by simp; exact hne))
theorem HasRow.slice {W : World} {v : Value} {sz n : Nat} {cs : List Value} (h : HasRow W v sz n cs) : ∃ o cap, v = .slice o n cap ∧ n ≤ cap ∧ cap ≤ 9223372036854775807 := by
  rcases h.2 with ⟨h0, rfl⟩ | ⟨a, cap, e, h1, h2, h3, h4⟩
  · exact ⟨none, 0, h0, Nat.le_refl _, by omega⟩
  · exact ⟨some a, cap, e, h1, h2⟩
theorem HasRow.at {W : World} {o : Option Addr} {m cap sz n : Nat} {cs : List Value} (h : HasRow W (.slice o m cap) sz n cs) (hn : 0 < n) : m = n ∧ ∃ b i, o = some ⟨b, i, none⟩ ∧ b < W.heap.size ∧ ∀ j, j < n * sz → W.cell? ⟨b, i + j, none⟩ = cs[j]? := by
  rcases h.2 with ⟨h0, h1⟩ | ⟨a, c, e, h1, h2, h3, h4⟩
  · omega
  · injection e with e1 e2 e3
    subst e1
    obtain ⟨b, i, s⟩ := a
    obtain ⟨hs, hlt⟩ := h3 hn
    simp only at hs hlt
    subst hs
    exact ⟨e2, b, i, rfl, hlt, fun j hj => by rw [← h4 j hj, addr_add]⟩

/-- rows of texts -/
def HasStrs (W : World) (v : Value) (zs : List (List UInt8)) : Prop := HasRow W v 1 zs.length (zs.map strV)
abbrev PutT : Type := Int × List UInt8
def putC (p : PutT) : List Value := [.int .i64 p.1, strV p.2]
def putCs (ps : List PutT) : List Value := ps.flatMap putC
/-- rows of writes -/
def HasPuts (W : World) (v : Value) (ps : List PutT) : Prop := HasRow W v 2 ps.length (putCs ps)
theorem putCs_len (ps : List PutT) : (putCs ps).length = ps.length * 2 := by
  induction ps with
  | nil => rfl
  | cons p ps ih => simp only [putCs, List.flatMap_cons, List.length_append, List.length_cons] at ih ⊢; rw [ih]; simp [putC]; omega
theorem putCs_cons (p : PutT) (ps : List PutT) : putCs (p :: ps) = .int .i64 p.1 :: strV p.2 :: putCs ps := rfl
theorem putCs_app (ps qs : List PutT) : putCs (ps ++ qs) = putCs ps ++ putCs qs := by simp [putCs]
theorem putCs_at (ps : List PutT) : ∀ j (h : j < ps.length), (putCs ps)[2 * j]? = some (.int .i64 ps[j].1) ∧ (putCs ps)[2 * j + 1]? = some (strV ps[j].2) := by
  induction ps with
  | nil => intro j h; simp at h
  | cons p ps ih =>
    intro j h
    cases j with
    | zero => exact ⟨rfl, rfl⟩
    | succ j =>
      have := ih j (by simpa using h)
      rw [putCs_cons, show 2 * (j + 1) = 2 * j + 1 + 1 by omega]
      simp only [List.getElem?_cons_succ, List.getElem_cons_succ]
      exact this
theorem HasStrs.keep {W W' : World} {v : Value} {zs : List (List UInt8)} (h : HasStrs W v zs) (hb : Below W.heap.size W W') : HasStrs W' v zs := HasRow.keep' h hb
theorem HasPuts.keep {W W' : World} {v : Value} {zs : List PutT} (h : HasPuts W v zs) (hb : Below W.heap.size W W') : HasPuts W' v zs := HasRow.keep' h hb
theorem HasStrs.cell {W : World} {o : Option Addr} {m cap : Nat} {zs : List (List UInt8)} (h : HasStrs W (.slice o m cap) zs) (j : Nat) (hj : j < zs.length) : ∃ b i, o = some ⟨b, i, none⟩ ∧ b < W.heap.size ∧ W.cell? ⟨b, i + j, none⟩ = some (strV zs[j]) := by
  obtain ⟨_, b, i, e, hb, hc⟩ := HasRow.at h (by omega)
  exact ⟨b, i, e, hb, by rw [hc j (by omega)]; simp [hj]⟩
theorem HasPuts.cell {W : World} {o : Option Addr} {m cap : Nat} {zs : List PutT} (h : HasPuts W (.slice o m cap) zs) (j : Nat) (hj : j < zs.length) : ∃ b i, o = some ⟨b, i, none⟩ ∧ b < W.heap.size ∧ W.cell? ⟨b, i + j * 2, none⟩ = some (.int .i64 zs[j].1) ∧ W.cell? ⟨b, i + j * 2 + 1, none⟩ = some (strV zs[j].2) := by
  obtain ⟨_, b, i, e, hb, hc⟩ := HasRow.at h (by omega)
  have h2 := putCs_at zs j hj
  exact ⟨b, i, e, hb, by rw [hc (j * 2) (by omega), Nat.mul_comm]; exact h2.1, by rw [Nat.add_assoc, hc (j * 2 + 1) (by omega), Nat.mul_comm]; exact h2.2⟩

/-- a disk, plain -/
structure Dk where
  secs : List (List UInt8)
  cache : List PutT
  fuse : Int
  off : Bool
/-- a disk in memory -/
def HasDk (W : World) (v : Value) (d : Dk) : Prop := ∃ s c, v = .agg #[s, c, .int .i64 d.fuse, .bool d.off] ∧ HasStrs W s d.secs ∧ HasPuts W c d.cache
theorem HasDk.keep {W W' : World} {v : Value} {d : Dk} (h : HasDk W v d) (hb : Below W.heap.size W W') : HasDk W' v d := by
  obtain ⟨s, c, e, h1, h2⟩ := h
  exact ⟨s, c, e, h1.keep hb, h2.keep hb⟩
/-- what any disk keeps to: numbers of 64 bits, and texts that there is room for -/
def Fits (d : Dk) : Prop := (-9223372036854775808 ≤ d.fuse ∧ d.fuse ≤ 9223372036854775807) ∧ (∀ z ∈ d.secs, z.length ≤ 9223372036854775807) ∧ ∀ p ∈ d.cache, (-9223372036854775808 ≤ p.1 ∧ p.1 ≤ 9223372036854775807) ∧ p.2.length ≤ 9223372036854775807
end Go.Proofs.Ytoigogjklhahkaa.Disk
