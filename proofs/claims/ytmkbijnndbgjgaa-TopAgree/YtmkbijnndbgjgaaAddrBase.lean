/- Rows of cells in memory; addresses as values; what tail, styleOf, cmp.Or, cmp.Compare and addr.Cmp return. -/
import Derived.Test.YtmkbijnndbgjgaaProg
import Derived.Test.YtmkbijnndbgjgaaAddrMath2
import Derived.WalkKit
import Derived.WalkSmall
import Derived.Laws.IdiomStrings
import Derived.Laws.BitsAllLaws
import Derived.Laws.StructEq
import Derived.RegionTactic
import Derived.Deep.RegionWith
import Derived.BigRegion
import Derived.ChangeAlike
import Derived.BigQuiet
import Derived.Deep.QuietTactic
import Derived.OneCell

import Derived.Laws.ResultCell
set_option linter.unusedVariables false
namespace Go.Proofs.Ytmkbijnndbgjgaa.Addr
open Go.RowKit

theorem below2 {a b c : World} (h1 : Below a.heap.size a b) (h2 : Below b.heap.size b c) : Below a.heap.size a c := h1.trans (h2.mono h1.size)
theorem below_drew {B : Nat} {w0 w : World} (h : Below B w0 w) : Below B w0 w.drew := h.trans ⟨rfl, rfl, rfl, Nat.le_refl _, fun _ _ => rfl⟩
theorem below_new {w0 w : World} (h : Below w0.heap.size w0 w) (o : Obj) : Below w0.heap.size w0 (w.alloc o) := h.alloc h.size _
theorem bset {B b k : Nat} {w0 w : World} {v : Value} (h : Below B w0 w) (hB : B ≤ b) : Below B w0 (w.setCell ⟨b, k, none⟩ v) := h.setCell (p := ⟨b, k, none⟩) hB v
def RowAt (W : World) (g : Nat) (cs : List Value) (t : TypeId) : Prop := W.heap[g]? = some (.cells cs.toArray t (0, 0))
theorem RowAt.lt {W : World} {g : Nat} {cs : List Value} {t : TypeId} (h : RowAt W g cs t) : g < W.heap.size := (Array.getElem?_eq_some_iff.1 h).1
theorem RowAt.cell {W : World} {g : Nat} {cs : List Value} {t : TypeId} (h : RowAt W g cs t) (k : Nat) : W.cell? ⟨g, k, none⟩ = cs[k]? := by
  unfold RowAt at h; simp [World.cell?, h]
theorem RowAt.frozen {W : World} {g : Nat} {cs : List Value} {t : TypeId} (h : RowAt W g cs t) (k : Nat) : W.frozen? ⟨g, k, none⟩ = false := by
  unfold RowAt at h; simp [World.frozen?, h]
theorem RowAt.below {W W' : World} {g : Nat} {cs : List Value} {t : TypeId} (h : RowAt W g cs t) (hb : Below W.heap.size W W') : RowAt W' g cs t := (hb.block g h.lt).trans h
theorem RowAt.drew {W : World} {g : Nat} {cs : List Value} {t : TypeId} (h : RowAt W g cs t) : RowAt W.drew g cs t := h
theorem RowAt.new (W : World) (cs : List Value) (t : TypeId) : RowAt (W.alloc (.cells cs.toArray t)) W.heap.size cs t := by unfold RowAt; simp only [World.alloc, Array.getElem?_push_size]
theorem RowAt.alloc {W : World} {g : Nat} {cs : List Value} {t : TypeId} (h : RowAt W g cs t) (o : Obj) : RowAt (W.alloc o) g cs t := h.below ((Below.refl _ W).alloc (Nat.le_refl _) _)

theorem gdrew {X W : World} {r : Option Nat} (h : X.grownBy W r) : X.grownBy W.drew r := ⟨h.os, h.tape, h.output, h.size, fun k hk hn => h.block k hk hn⟩
theorem gset {X W : World} {b k : Nat} {v : Value} (h : X.grownBy W (some b)) : X.grownBy (W.setCell ⟨b, k, none⟩ v) (some b) := by
  have hb : Below b W (W.setCell ⟨b, k, none⟩ v) := (Below.refl b W).setCell (p := ⟨b, k, none⟩) (Nat.le_refl _) v
  refine ⟨hb.os.trans h.os, hb.tape.trans h.tape, hb.output.trans h.output, Nat.le_trans h.size hb.size, fun j hj hn => ?_⟩
  have hne : j ≠ b := fun e => hn (by rw [e])
  refine Eq.trans ?_ (h.block j hj hn)
  simp only [World.setCell]
  rw [Array.getElem?_modify, if_neg (fun e => hne e.symm)]
theorem gbelow {X W W' : World} {r : Option Nat} (h : X.grownBy W r) (hb : Below W.heap.size W W') : X.grownBy W' r :=
  ⟨hb.os.trans h.os, hb.tape.trans h.tape, hb.output.trans h.output, Nat.le_trans h.size hb.size, fun j hj hn => (hb.block j (Nat.lt_of_lt_of_le hj h.size)).trans (h.block j hj hn)⟩
theorem galloc {X W : World} {r : Option Nat} (h : X.grownBy W r) (o : Obj) : X.grownBy (W.alloc o) r := gbelow h ((Below.refl _ W).alloc (Nat.le_refl _) _)
theorem grefl (X : World) (r : Option Nat) : X.grownBy X r := ⟨rfl, rfl, rfl, Nat.le_refl _, fun _ _ _ => rfl⟩
theorem RowAt.gkeep {X W : World} {g : Nat} {cs : List Value} {t : TypeId} {r : Option Nat} (h : RowAt X g cs t) (hg : X.grownBy W r) (hne : some g ≠ r) : RowAt W g cs t := (hg.block g h.lt hne).trans h
theorem gfinal {w X W : World} {b : Nat} (h0 : Below w.heap.size w X) (hg : X.grownBy W (some b)) (hb : w.heap.size ≤ b) : Below w.heap.size w W :=
  ⟨hg.os.trans h0.os, hg.tape.trans h0.tape, hg.output.trans h0.output, Nat.le_trans h0.size hg.size, fun k hk => (hg.block k (Nat.lt_of_lt_of_le hk h0.size) (fun e => by injection e with e; omega)).trans (h0.block k hk)⟩
theorem cells2 {W : World} {b : Nat} {x y : Value} {t : TypeId} (h : RowAt W b [x, y] t) : W.cell? ⟨b, 0, none⟩ = some x ∧ W.cell? ⟨b, 1, none⟩ = some y ∧ ∀ k, W.frozen? ⟨b, k, none⟩ = false := ⟨h.cell 0, h.cell 1, h.frozen⟩
theorem cells4 {W : World} {b : Nat} {x y z u : Value} {t : TypeId} (h : RowAt W b [x, y, z, u] t) : W.cell? ⟨b, 0, none⟩ = some x ∧ W.cell? ⟨b, 1, none⟩ = some y ∧ W.cell? ⟨b, 2, none⟩ = some z ∧ W.cell? ⟨b, 3, none⟩ = some u ∧ ∀ k, W.frozen? ⟨b, k, none⟩ = false := ⟨h.cell 0, h.cell 1, h.cell 2, h.cell 3, h.frozen⟩

/-- an address as a value -/
def adV (n : Nat) : Value := .agg #[.int .u64 (hiN n : Int), .int .u64 (loN n : Int)]
def pfV (p : Pf) : Value := .agg #[.bool p.six, .int .u64 (hiN p.n : Int), .int .u64 (loN p.n : Int), .int .i64 p.len]
theorem results_cell {fn : Func} {p : Tmp} {ty : TypeId} (h : fn.results = #[.cell p ty]) (tmps : Array Value) (P : Program) (w : World) :
    (results fn tmps).run P w = ((asAddr (tmps.getD p undef)).run P w).andThen fun a w₁ => (loadVar ty a).run P w₁ := by
  simp only [results, h]
  simp [Sem.run_bind, Result.andThen]
theorem styleOf_any (six : Bool) (w : World) : Calls Try.prog 105 #[.bool six] w fun e w' => e = .returned (.agg (if six then #[.int .i64 128, .int .i64 16, .int .i64 16, .string ⟨#[58]⟩] else #[.int .i64 32, .int .i64 8, .int .i64 10, .string ⟨#[46]⟩])) ∧ Below w.heap.size w w' := by
  cases six
  · go_enter Try.func105, Try.ntmps105
    go_wp2
    (try simp only [Exit.inBlock, Exit.then])
    refine bodyPost_ret (v := .agg #[.int .i64 32, .int .i64 8, .int .i64 10, .string ⟨#[46]⟩]) ?_ rfl ⟨rfl, (Below.refl _ w).alloc (Nat.le_refl _) _⟩
    rw [results_cell rfl]
    go_simp
  · go_enter Try.func105, Try.ntmps105
    go_wp2
    (try simp only [Exit.inBlock, Exit.then])
    refine bodyPost_ret (v := .agg #[.int .i64 128, .int .i64 16, .int .i64 16, .string ⟨#[58]⟩]) ?_ rfl ⟨rfl, (Below.refl _ w).alloc (Nat.le_refl _) _⟩
    rw [results_cell rfl]
    go_simp
theorem wrap_pow (k : Nat) (h : k ≤ 64) : IntKind.u64.wrap (IntKind.u64.wrap (2 ^ k) - 1) = ((2 ^ k - 1 : Nat) : Int) := by
  have hp := Nat.two_pow_pos k
  have hle : (2 : Nat) ^ k ≤ 2 ^ 64 := Nat.pow_le_pow_right (by decide) h
  have e : (2 : Int) ^ k = ((2 ^ k : Nat) : Int) := by simp
  rw [e]
  generalize 2 ^ k = q at *
  rw [IntKind.wrap_u64, IntKind.wrap_u64]
  omega
theorem tail_any (k : Nat) (w : World) (hk : k ≤ 128) : Calls Try.prog 104 #[.int .i64 (k : Int)] w fun e w' => e = .returned (adV (freeN k)) ∧ Below w.heap.size w w' := by
  have h1 := free_hi k
  have h2 := free_lo k
  have HV : Hid (adV (freeN k) = .agg #[.int .u64 ((2 ^ (k - 64) - 1 : Nat) : Int), .int .u64 ((2 ^ (min k 64) - 1 : Nat) : Int)]) := by show _ = _; unfold adV; rw [h1, h2]
  generalize adV (freeN k) = V at HV ⊢
  clear h1 h2
  have hki : (k : Int) ≤ 128 := by omega
  have hp64 : (2 : Nat) ^ k ≤ 2 ^ 128 := Nat.pow_le_pow_right (by decide) hk
  by_cases h64 : 64 < k
  · go_enter Try.func104, Try.ntmps104
    go_wp2
    go_region
    go_wp2
    (try simp only [Exit.inBlock, Exit.then])
    refine bodyPost_ret (v := .agg #[.int .u64 (IntKind.u64.wrap (IntKind.u64.wrap (2 ^ (k - 64)) - 1)), .int .u64 (IntKind.u64.wrap (IntKind.u64.wrap 18446744073709551616 - 1))]) ?_ rfl ⟨?_, below_drew ((Below.refl _ w).alloc (Nat.le_refl _) _)⟩
    · rw [results_cell rfl]
      go_simp
    · rw [HV.out, wrap_pow _ (by omega), show min k 64 = 64 by omega]
      rfl
  · by_cases h63 : k = 64
    · subst h63
      go_enter Try.func104, Try.ntmps104
      go_wp2
      go_region
      go_wp2
      (try simp only [Exit.inBlock, Exit.then])
      refine bodyPost_ret (v := .agg #[.int .u64 0, .int .u64 18446744073709551615]) ?_ rfl ⟨?_, below_drew ((Below.refl _ w).alloc (Nat.le_refl _) _)⟩
      · rw [results_cell rfl]
        go_simp
        rfl
      · rw [HV.out]; rfl
    · have hlt : (k : Int) - 64 < 0 := by omega
      go_enter Try.func104, Try.ntmps104
      go_wp2
      go_region
      go_wp2
      (try simp only [Exit.inBlock, Exit.then])
      refine bodyPost_ret (v := .agg #[.int .u64 0, .int .u64 (IntKind.u64.wrap (IntKind.u64.wrap (2 ^ k) - 1))]) ?_ rfl ⟨?_, below_drew ((Below.refl _ w).alloc (Nat.le_refl _) _)⟩
      · rw [results_cell rfl]
        go_simp
      · rw [HV.out, wrap_pow _ (by omega), show min k 64 = k by omega, show k - 64 = 0 by omega]; rfl
theorem compare_any (x y : Nat) (w : World) (hx : (x : Int) ≤ 18446744073709551615) (hy : (y : Int) ≤ 18446744073709551615) : Calls Try.prog 107 #[.int .u64 (x : Int), .int .u64 (y : Int)] w fun e w' => e = .returned (.int .i64 (cmpN x y)) ∧ w' = w := by
  have HB : Hid (cmpN x y = if x < y then -1 else if x = y then 0 else 1) := rfl
  generalize cmpN x y = R at HB ⊢
  by_cases h1 : x < y
  · have HV : Hid (R = -1) := by show _ = _; rw [HB.out, if_pos h1]
    clear HB
    go_enter Try.func107, Try.ntmps107
    go_wp2
    go_ret
    exact ⟨by rw [HV.out]; rfl, rfl⟩
  · have h3 : decide ((x : Int) < (y : Int)) = false := by rw [decide_eq_false_iff_not]; omega
    have h3' : decide (x < y) = false := by rw [decide_eq_false_iff_not]; omega
    by_cases h2 : y < x
    · have h4 : decide ((y : Int) < (x : Int)) = true := by rw [decide_eq_true_iff]; omega
      have h4' : decide (y < x) = true := by rw [decide_eq_true_iff]; omega
      have HV : Hid (R = 1) := by show _ = _; rw [HB.out, if_neg h1, if_neg (by omega)]
      clear HB
      go_enter Try.func107, Try.ntmps107
      go_wp2
      go_ret
      exact ⟨by rw [HV.out]; rfl, rfl⟩
    · have h4 : decide ((y : Int) < (x : Int)) = false := by rw [decide_eq_false_iff_not]; omega
      have h4' : decide (y < x) = false := by rw [decide_eq_false_iff_not]; omega
      have HV : Hid (R = 0) := by show _ = _; rw [HB.out, if_neg h1, if_pos (by omega)]
      clear HB
      go_enter Try.func107, Try.ntmps107
      go_wp2
      go_ret
      exact ⟨by rw [HV.out]; rfl, rfl⟩
end Go.Proofs.Ytmkbijnndbgjgaa.Addr
