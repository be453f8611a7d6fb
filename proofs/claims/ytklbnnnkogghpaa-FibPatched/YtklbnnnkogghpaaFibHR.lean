/- The document's answer of routers: Check, Does, Hop. -/
import Derived.Test.YtklbnnnkogghpaaMsgChk
import Derived.Test.YtklbnnnkogghpaaTrCheck
import Derived.Test.YtklbnnnkogghpaaAddrGF
import Derived.Test.YtklbnnnkogghpaaTrHY
import Derived.Test.YtklbnnnkogghpaaTrHZ
import Derived.Test.YtklbnnnkogghpaaAddrHalves
import Derived.Laws.ResultCell
import Derived.Test.YtklbnnnkogghpaaTrRows
import Derived.Test.YtklbnnnkogghpaaTrPutM
import Derived.Test.YtklbnnnkogghpaaMsgPfEq
import Derived.Test.YtklbnnnkogghpaaLkHZ
import Derived.Test.YtklbnnnkogghpaaFibHZ
import Derived.Test.YtklbnnnkogghpaaFibHL
set_option linter.unusedVariables false
namespace Go.Proofs.Ytklbnnnkogghpaa.Msg
open Go.RowKit
open Go.Proofs.Ytklbnnnkogghpaa.Addr (Pf okP checkP wideN firstN kP hiN loN adV pfV RowAt below2 below_drew below_new bset RowAt.lt RowAt.cell RowAt.frozen RowAt.below RowAt.drew RowAt.new RowAt.alloc gdrew gset gbelow galloc grefl cells2 cells4 results_cell)

end Go.Proofs.Ytklbnnnkogghpaa.Msg
namespace Go.Proofs.Ytklbnnnkogghpaa.Tr
open Go.RowKit
open Go.Proofs.Ytklbnnnkogghpaa.Msg (Ac okA FitA)
open Go.Proofs.Ytklbnnnkogghpaa.Lk (HasRow)
open Go.Proofs.Ytklbnnnkogghpaa.Addr (Pf okP checkP cmpN hiN loN pfV adV RowAt below2 below_drew below_new bset RowAt.lt RowAt.cell RowAt.frozen RowAt.below RowAt.drew RowAt.new RowAt.alloc cells2 cells4 Bl bl_ne wp_region_bl bl_call bl_same)
theorem less_swap (p q : Pf) : decide (ordP p q < 0) = !decide (ordP q p ≤ 0) := by
  have h1 := ordP_lt p q
  have h2 := ordP_gt q p
  by_cases h : ltP p q
  · rw [decide_eq_true (h1.2 h), decide_eq_false (by have := h2.2 h; omega)]; rfl
  · rw [decide_eq_false (fun c => h (h1.1 c)), decide_eq_true (by rcases Int.lt_or_le 0 (ordP q p) with c | c; exact absurd (h2.1 c) h; exact c)]; rfl
end Go.Proofs.Ytklbnnnkogghpaa.Tr
namespace Go.Proofs.Ytklbnnnkogghpaa.Tr
open Go.RowKit
open Go.Proofs.Ytklbnnnkogghpaa.Msg (Ac okA FitA)
open Go.Proofs.Ytklbnnnkogghpaa.Lk (HasRow)
open Go.Proofs.Ytklbnnnkogghpaa.Addr (Pf okP hasB cmpN hiN loN pfV adV RowAt below2 below_drew below_new bset gset grefl RowAt.gkeep RowAt.lt RowAt.cell RowAt.frozen RowAt.below RowAt.drew RowAt.new RowAt.alloc RowAt.set1 RowAt.far1 cells2 cells4)
def startR : Rt := ⟨⟨false, 0, -1⟩, ⟨0, 0⟩⟩
def stepR (six : Bool) (a : Nat) (b r : Rt) : Rt := if decide (b.pf.len < r.pf.len) && hasB r.pf six a then r else b
def bestF (six : Bool) (a : Nat) (l : List Rt) : Rt := l.foldl (stepR six a) startR
def bestT (l : List Rt) (six : Bool) (a : Nat) : Rt × Bool := if (bestF six a l).pf.len < 0 then (zeroR, false) else (bestF six a l, true)
theorem best_last {six : Bool} {a : Nat} : ∀ (l : List Rt), Up l → bestF six a l = (l.filter (hasR six a)).getLast?.getD startR := by
  intro l
  unfold bestF
  rw [← List.reverse_reverse l]
  generalize l.reverse = m
  induction m with
  | nil => intro _; rfl
  | cons r m ih =>
    intro hu
    rw [List.reverse_cons] at hu ⊢
    have hp := List.pairwise_append.1 hu
    have ih := ih hp.1
    rw [List.foldl_append, ih, List.filter_append]
    show stepR six a _ r = _
    unfold stepR
    cases hh : hasB r.pf six a with
    | false =>
      rw [Bool.and_false, List.filter_cons_of_neg (by unfold hasR; rw [hh]; simp)]
      simp
    | true =>
      rw [List.filter_cons_of_pos (by unfold hasR; exact hh), List.filter_nil]
      have hlt : ((m.reverse.filter (hasR six a)).getLast?.getD startR).pf.len < r.pf.len := by
        cases hL : (m.reverse.filter (hasR six a)).getLast? with
        | none =>
          have := (ok_parts (has_ok hh)).1
          show (-1 : Int) < _
          omega
        | some y =>
          have hy := List.mem_of_getLast? hL
          obtain ⟨h1, h2⟩ := List.mem_filter.1 hy
          exact (later_long (hp.2.2 y h1 r (by simp)) h2 hh).1
      rw [decide_eq_true hlt]
      simp
theorem best_long {l : List Rt} {six : Bool} {a : Nat} (hl : okT l = true) (ha : Addr.rightB six a = true) : bestT l six a = ((longT l six a).1, decide ((longT l six a).2 = 0)) := by
  have hu := ((okT_iff l).1 hl).2.2
  have hok := ((okT_iff l).1 hl).2.1
  unfold bestT longT
  rw [best_last l hu, hl, ha]
  simp only [Bool.and_self, if_true]
  unfold lastR codeR
  cases hL : (l.filter (hasR six a)).getLast? with
  | none =>
    have he := List.getLast?_eq_none_iff.1 hL
    rw [he]
    rfl
  | some y =>
    have hy := List.mem_of_getLast? hL
    obtain ⟨h1, h2⟩ := List.mem_filter.1 hy
    have h3 := (ok_parts (has_ok h2)).1
    have hne : (l.filter (hasR six a)).length ≠ 0 := fun e => by
      rw [List.length_eq_zero_iff] at e
      rw [e] at hy
      cases hy
    simp only [Option.getD_some]
    rw [if_neg (by omega), if_neg hne]
    rfl
theorem bestF_fit {l : List Rt} (hf : ∀ x ∈ l, FitR x) (six : Bool) (a : Nat) : FitR (bestF six a l) := by
  unfold bestF
  have h0 : FitR startR := ⟨⟨by decide, by decide⟩, by decide, by decide, by decide⟩
  generalize startR = s at h0
  induction l generalizing s with
  | nil => exact h0
  | cons r l ih =>
    refine ih (fun x hx => hf x (List.mem_cons_of_mem _ hx)) _ ?_
    unfold stepR
    split
    · exact hf r List.mem_cons_self
    · exact h0
theorem set6_row {W : World} {B : Nat} {c0 c1 c2 c3 c4 c5 : Value} {t : TypeId} (h : RowAt W B [c0, c1, c2, c3, c4, c5] t) (x0 x1 x2 x3 x4 x5 : Value) : RowAt ((((((W.setCell ⟨B, 0, none⟩ x0).setCell ⟨B, 1, none⟩ x1).setCell ⟨B, 2, none⟩ x2).setCell ⟨B, 3, none⟩ x3).setCell ⟨B, 4, none⟩ x4).setCell ⟨B, 5, none⟩ x5) B [x0, x1, x2, x3, x4, x5] t := (((((h.set1 0 x0).set1 1 x1).set1 2 x2).set1 3 x3).set1 4 x4).set1 5 x5
theorem set6_bl {b0 B : Nat} {w0 W : World} (h : Below b0 w0 W) (hb : b0 ≤ B) (x0 x1 x2 x3 x4 x5 : Value) : Below b0 w0 ((((((W.setCell ⟨B, 0, none⟩ x0).setCell ⟨B, 1, none⟩ x1).setCell ⟨B, 2, none⟩ x2).setCell ⟨B, 3, none⟩ x3).setCell ⟨B, 4, none⟩ x4).setCell ⟨B, 5, none⟩ x5) := bset (bset (bset (bset (bset (bset h hb) hb) hb) hb) hb) hb
theorem six_of {W : World} {B : Nat} {c0 c1 c2 c3 c4 c5 : Value} {t : TypeId} (h : RowAt W B [c0, c1, c2, c3, c4, c5] t) : W.cell? ⟨B, 0, none⟩ = some c0 ∧ W.cell? ⟨B, 1, none⟩ = some c1 ∧ W.cell? ⟨B, 2, none⟩ = some c2 ∧ W.cell? ⟨B, 3, none⟩ = some c3 ∧ W.cell? ⟨B, 4, none⟩ = some c4 ∧ W.cell? ⟨B, 5, none⟩ = some c5 ∧ ∀ k, W.frozen? ⟨B, k, none⟩ = false := ⟨h.cell 0, h.cell 1, h.cell 2, h.cell 3, h.cell 4, h.cell 5, h.frozen⟩
end Go.Proofs.Ytklbnnnkogghpaa.Tr
namespace Go.Proofs.Ytklbnnnkogghpaa.Tr
open Go.RowKit Go.Shelf
open Go.Proofs.Ytklbnnnkogghpaa.Msg (Ac okA FitA eqP eqP_iff eqP_not pf_neq pf_eqb)
open Go.Proofs.Ytklbnnnkogghpaa.Lk (HasRow append_row empty_own own_below hasRow_own)
open Go.Proofs.Ytklbnnnkogghpaa.Addr (Pf okP hiN loN pfV RowAt below2 below_drew below_new bset RowAt.lt RowAt.cell RowAt.frozen RowAt.below RowAt.drew RowAt.new RowAt.alloc cells2 cells4)
attribute [-go_sem] Builtin.append_
/-- a row of a call's own -/
structure Own1 (w W : World) (u : Value) (a : List Rt) : Prop where
  ou : W.ownsRow w.heap.size 61 6 u a.length (rtCs a)
  bl : Below w.heap.size w W
theorem Own1.below {w W W' : World} {u : Value} {a : List Rt} (h : Own1 w W u a) (hb : Below W.heap.size W W') : Own1 w W' u a := ⟨own_below h.ou hb, below2 h.bl hb⟩
theorem Own1.app {w W : World} {u x : Value} {a m : List Rt} (h : Own1 w W u a) (hx : HasRts W x m) (hb : a.length + m.length ≤ 1000000) :
    ∃ v' w3, (∀ ty, (Builtin.append_ #[22, 22] ty #[u, x]).run Try.prog W = .ok v' w3) ∧ Own1 w w3 v' (a ++ m) := by
  obtain ⟨v', w3, hrun, h1, h2⟩ := append_row info_rt Try.underlying22 rfl (by decide) h.ou hx (one_routes m) (by omega) (by omega) h.bl.size
  refine ⟨v', w3, hrun, by rw [← List.length_append, ← rtCs_app] at h1; exact h1, ?_⟩
  exact h.bl.grown h2 h.bl.size (fun k e => (h.ou.lt k e).1)
theorem lit_rt (W : World) (x : Rt) : HasRts (W.alloc (.cells #[.bool x.pf.six, .int .u64 (hiN x.pf.n : Int), .int .u64 (loN x.pf.n : Int), .int .i64 x.pf.len, .int .u8 (x.act.k : Int), .int .i64 x.act.i] 61)) (.slice (some ⟨W.heap.size, 0, none⟩) 1 1) [x] := by
  refine ⟨rfl, .inr ⟨⟨W.heap.size, 0, none⟩, 1, rfl, Nat.le_refl _, by decide, fun _ => ⟨rfl, by simp⟩, fun j hj => ?_⟩⟩
  rw [Lk.addr_add, Nat.zero_add]
  exact (RowAt.new W (rtC x) 61).cell j
theorem filter_snocR (p : Rt → Bool) (l : List Rt) (k : Nat) (h : k < l.length) : (l.take (k + 1)).filter p = (l.take k).filter p ++ (if p l[k] then [l[k]] else []) := by
  rw [List.take_succ_eq_append_getElem h, List.filter_append]
  congr 1
  cases hp : p l[k] <;> simp [hp]
theorem filter_leR (p : Rt → Bool) (l : List Rt) (k : Nat) : ((l.take k).filter p).length ≤ l.length := Nat.le_trans (List.length_filter_le _ _) (by rw [List.length_take]; omega)
theorem others_eqP (l : List Rt) (p : Pf) : othersT l p = l.filter (fun s => !eqP s.pf p) := by
  unfold othersT
  congr 1
  funext s
  congr 1
  rw [Bool.eq_iff_iff, decide_eq_true_eq, eqP_iff, ordP_eq]
end Go.Proofs.Ytklbnnnkogghpaa.Tr
namespace Go.Proofs.Ytklbnnnkogghpaa.Fib
open Go.RowKit
open Go.Proofs.Ytklbnnnkogghpaa.Addr (Pf hiN loN rightB RowAt below2 below_drew below_new RowAt.lt RowAt.cell RowAt.frozen RowAt.below RowAt.drew RowAt.new RowAt.alloc RowAt.set1 RowAt.far1 cells4 cells2 gset grefl bset gbelow gdrew RowAt.gkeep results_cell)
open Go.Proofs.Ytklbnnnkogghpaa.Msg (Ev Ac okE FitE evV evC checkE FitA)
open Go.Proofs.Ytklbnnnkogghpaa.Lk (Lk HasLks HasLks.keep FitL peerL okL)
open Go.Proofs.Ytklbnnnkogghpaa.Tr (Rt HasRts HasRts.keep FitR longT rtA bestT okT)
theorem find_at {l : List Lk} {i : Int} {k : Nat} (hk : k < l.length) (h : l[k].iface = i) (h2 : ∀ j (hj : j < l.length), j < k → l[j].iface ≠ i) : Lk.findL l i = some l[k] := by
  unfold Lk.findL
  rw [List.find?_eq_some_iff_getElem]
  refine ⟨by simpa using h, k, hk, rfl, fun j hj => ?_⟩
  have := h2 j (by omega) hj
  simpa using this
end Go.Proofs.Ytklbnnnkogghpaa.Fib
