/- What readPrefix and readAction read. -/
import Derived.Test.YtbglbegljkgknaaGreatNq14
import Derived.Test.YtbglbegljkgknaaGreatNq01
set_option linter.unusedVariables false
namespace Go.Proofs.YtbglbegljkgknaaGreat.Msg
open Go.RowKit
open Go.Proofs.YtbglbegljkgknaaGreat.Addr (Pf okP checkP wideN firstN kP hiN loN adV pfV RowAt below2 below_drew below_new bset RowAt.lt RowAt.cell RowAt.frozen RowAt.below RowAt.drew RowAt.new RowAt.alloc gdrew gset gbelow galloc grefl cells2 cells4 results_cell)

def layL (six : Bool) (n : Nat) : List UInt8 := (be 16 n).drop (frN six)
theorem cB_of (x : Nat) (y : Int) (h : y = ((x % 256 : Nat) : Int)) : cB (UInt8.ofNat (x % 256)) = .int .u8 y := by
  unfold cB
  rw [UInt8.toNat_ofNat_of_lt' (by show x % 256 < 256; omega), h]
theorem cL_be8 (x : Nat) (hx : x < 18446744073709551616) : cL (be 8 x) = [.int .u8 ((x : Int) / 72057594037927936), .int .u8 ((x : Int) / 281474976710656 % 256), .int .u8 ((x : Int) / 1099511627776 % 256), .int .u8 ((x : Int) / 4294967296 % 256), .int .u8 ((x : Int) / 16777216 % 256), .int .u8 ((x : Int) / 65536 % 256), .int .u8 ((x : Int) / 256 % 256), .int .u8 ((x : Int) % 256)] := by
  show [cB _, cB _, cB _, cB _, cB _, cB _, cB _, cB _] = _
  rw [cB_of _ ((x : Int) / 72057594037927936) (by omega), cB_of _ ((x : Int) / 281474976710656 % 256) (by omega), cB_of _ ((x : Int) / 1099511627776 % 256) (by omega), cB_of _ ((x : Int) / 4294967296 % 256) (by omega), cB_of _ ((x : Int) / 16777216 % 256) (by omega), cB_of _ ((x : Int) / 65536 % 256) (by omega), cB_of _ ((x : Int) / 256 % 256) (by omega), cB_of _ ((x : Int) % 256) (by omega)]
theorem be_mod (k : Nat) : ∀ n, be k (n % 256 ^ k) = be k n := by
  induction k with
  | zero => intro n; rfl
  | succ k ih =>
    intro n
    rw [be, be]
    have e1 : n % 256 ^ (k + 1) / 256 = n / 256 % 256 ^ k := by rw [Nat.pow_succ, Nat.mul_comm, Nat.mod_mul_right_div_self]
    have e2 : n % 256 ^ (k + 1) % 256 = n % 256 := Nat.mod_mod_of_dvd n ⟨256 ^ k, by rw [Nat.pow_succ, Nat.mul_comm]⟩
    rw [e1, e2, ih]
theorem cL_be16 (n : Nat) (hn : n < 2 ^ 128) : cL (be 16 n) = [.int .u8 (((hiN n : Nat) : Int) / 72057594037927936), .int .u8 (((hiN n : Nat) : Int) / 281474976710656 % 256), .int .u8 (((hiN n : Nat) : Int) / 1099511627776 % 256), .int .u8 (((hiN n : Nat) : Int) / 4294967296 % 256), .int .u8 (((hiN n : Nat) : Int) / 16777216 % 256), .int .u8 (((hiN n : Nat) : Int) / 65536 % 256), .int .u8 (((hiN n : Nat) : Int) / 256 % 256), .int .u8 (((hiN n : Nat) : Int) % 256), .int .u8 (((loN n : Nat) : Int) / 72057594037927936), .int .u8 (((loN n : Nat) : Int) / 281474976710656 % 256), .int .u8 (((loN n : Nat) : Int) / 1099511627776 % 256), .int .u8 (((loN n : Nat) : Int) / 4294967296 % 256), .int .u8 (((loN n : Nat) : Int) / 16777216 % 256), .int .u8 (((loN n : Nat) : Int) / 65536 % 256), .int .u8 (((loN n : Nat) : Int) / 256 % 256), .int .u8 (((loN n : Nat) : Int) % 256)] := by
  have e : be 16 n = be 8 (hiN n) ++ be 8 (loN n) := by
    have h1 := be_split 8 8 n
    have h2 := be_mod 8 n
    rw [show (256 : Nat) ^ 8 = 18446744073709551616 from rfl] at h1 h2
    rw [h1, ← h2]; rfl
  rw [e, cL, List.map_append]
  show cL (be 8 (hiN n)) ++ cL (be 8 (loN n)) = _
  rw [cL_be8 _ (Addr.hiN_lt hn), cL_be8 _ (Addr.loN_lt n)]
  rfl
end Go.Proofs.YtbglbegljkgknaaGreat.Msg
namespace Go.Proofs.YtbglbegljkgknaaGreat.Msg
open Go.RowKit
open Go.Proofs.YtbglbegljkgknaaGreat.Addr (Pf okP checkP wideN firstN kP hiN loN adV pfV RowAt below2 below_drew below_new bset RowAt.lt RowAt.cell RowAt.frozen RowAt.below RowAt.drew RowAt.new RowAt.alloc gdrew gset gbelow galloc grefl cells2 cells4 results_cell)

theorem part_no {α : Type} {z : α} {f : List UInt8 → Option (α × List UInt8)} {l : List UInt8} (h : f l = none) : part z f (some l) = (z, none) := by simp only [part, h]
theorem part_yes {α : Type} {z v : α} {f : List UInt8 → Option (α × List UInt8)} {l r : List UInt8} (h : f l = some (v, r)) : part z f (some l) = (v, some r) := by simp only [part, h]
end Go.Proofs.YtbglbegljkgknaaGreat.Msg
namespace Go.Proofs.YtbglbegljkgknaaGreat.Msg
open Go.RowKit
open Go.Proofs.YtbglbegljkgknaaGreat.Addr (RowAt RowAt.lt gset grefl)
theorem gkeep {W W' : World} {g k : Nat} {cs : List Value} {t : TypeId} (h : RowAt W k cs t) (hg : W.grownBy W' (some g)) (hne : k ≠ g) : RowAt W' k cs t := (hg.block k (RowAt.lt h) (by intro e; injection e with e; exact hne e)).trans h
theorem gsetO (W : World) (b k : Nat) (v : Value) : W.grownBy (W.setCell ⟨b, k, none⟩ v) (some b) := gset (grefl W _)
end Go.Proofs.YtbglbegljkgknaaGreat.Msg
namespace Go.Proofs.YtbglbegljkgknaaGreat.Msg
open Go.RowKit
open Go.Proofs.YtbglbegljkgknaaGreat.Addr (Pf okP checkP wideN firstN kP hiN loN adV pfV RowAt below2 below_drew below_new bset RowAt.lt RowAt.cell RowAt.frozen RowAt.below RowAt.drew RowAt.new RowAt.alloc gdrew gset gbelow galloc grefl cells2 cells4 results_cell)

theorem results_cell_tmp1 {fn : Func} {p u : Tmp} {ty : TypeId} (h : fn.results = #[.cell p ty, .tmp u]) (tmps : Array Value) (P : Program) (w : World) :
    (results fn tmps).run P w = ((asAddr (tmps.getD p undef)).run P w).andThen fun a w₁ => ((loadVar ty a).run P w₁).andThen fun v w₂ => .ok (.tuple #[v, tmps.getD u undef]) w₂ := by
  simp only [results, h]
  simp [Sem.run_bind, Result.andThen]
theorem gof {W W' : World} (g : Nat) (hb : Below W.heap.size W W') : W.grownBy W' (some g) := gbelow (grefl _ _) hb
theorem gset2 {X W : World} {g b k : Nat} {v : Value} (h : X.grownBy W (some g)) (hb : X.heap.size ≤ b) : X.grownBy (W.setCell ⟨b, k, none⟩ v) (some g) := by
  refine ⟨h.os, h.tape, h.output, by simp [World.setCell]; exact h.size, fun j hj hn => ?_⟩
  refine Eq.trans ?_ (h.block j hj hn)
  simp only [World.setCell, Array.getElem?_modify]
  rw [if_neg (by omega)]
theorem row_new2 (W : World) (cs ds : List Value) (t u : TypeId) : RowAt ((W.alloc (.cells cs.toArray t)).alloc (.cells ds.toArray u)) W.heap.size cs t ∧ RowAt ((W.alloc (.cells cs.toArray t)).alloc (.cells ds.toArray u)) (W.heap.size + 1) ds u := by
  refine ⟨(RowAt.new W cs t).alloc _, ?_⟩
  have := RowAt.new (W.alloc (.cells cs.toArray t)) ds u
  rw [World.size_alloc] at this
  exact this
theorem adV0 : adV 0 = .agg #[.int .u64 0, .int .u64 0] := by unfold Addr.adV Addr.hiN Addr.loN; simp
end Go.Proofs.YtbglbegljkgknaaGreat.Msg
