/- The document's answer of routes: Best. -/
import Derived.Test.YtbglbegljkgknaaGreatNs03
import Derived.Test.YtbglbegljkgknaaGreatNq32
import Derived.Test.YtbglbegljkgknaaGreatNq25
import Derived.Test.YtbglbegljkgknaaGreatNq13
import Derived.Laws.ResultCell
set_option linter.unusedVariables false
namespace Go.Proofs.YtbglbegljkgknaaGreat.Addr
open Go.RowKit

theorem has_bits {p : Pf} {a : Nat} (hok : okP p = true) (hr : rightB p.six a = true) :
    ((∀ j, j < p.len.toNat → p.n.testBit (wideN p.six - 1 - j) = a.testBit (wideN p.six - 1 - j)) → hasB p p.six a = true) ∧ (∀ j, j < p.len.toNat → p.n.testBit (wideN p.six - 1 - j) ≠ a.testBit (wideN p.six - 1 - j) → hasB p p.six a = false) := by
  have hk : kP p = wideN p.six - p.len.toNat := rfl
  have hle := (okP_iff.1 hok).1
  have ha : a < 2 ^ wideN p.six := of_decide_eq_true hr
  have hn := okP_lt hok
  have h0 := okP_zero hok
  have key : firstN (kP p) a = p.n ↔ p.n / 2 ^ kP p = a / 2 ^ kP p := by
    unfold firstN
    have h1 := Nat.div_add_mod a (2 ^ kP p)
    have h2 := Nat.div_add_mod p.n (2 ^ kP p)
    constructor
    · intro h
      have : 2 ^ kP p * (p.n / 2 ^ kP p) = 2 ^ kP p * (a / 2 ^ kP p) := by omega
      exact Nat.eq_of_mul_eq_mul_left (Nat.two_pow_pos _) this
    · intro h
      rw [h] at h2
      omega
  have hb := div_eq_bits (k := kP p) hn ha
  unfold hasB
  rw [hok, hr]
  simp only [decide_true, Bool.true_and]
  constructor
  · intro h
    apply decide_eq_true
    rw [key, hb]
    intro j h1 h2
    have := h (wideN p.six - 1 - j) (by omega)
    rwa [show wideN p.six - 1 - (wideN p.six - 1 - j) = j by omega] at this
  · intro j hj hne
    apply decide_eq_false
    rw [key, hb]
    intro h
    exact hne (h _ (by omega) (by omega))
set_option maxHeartbeats 4000000 in
set_option maxRecDepth 20000 in
theorem rhas_any (p : Pf) (six : Bool) (a : Nat) (w : World) (hl : -9223372036854775808 ≤ p.len ∧ p.len ≤ 9223372036854775807) (hn : p.n < 2 ^ 128) (ha : a < 2 ^ 128) : Calls Tryz.prog 124 #[pfV p, .bool six, adV a] w fun e w' => e = .returned (.bool (hasB p six a)) ∧ Below w.heap.size w w' := by
  have cc := fun w => rcheck_any p w hl hn
  have cr := fun w => rright_any six a w ha
  obtain ⟨X, hX⟩ : ∃ X, X = (w.alloc (.cells #[.bool p.six, .int .u64 (hiN p.n : Int), .int .u64 (loN p.n : Int), .int .i64 p.len] 33)).alloc (.cells #[.int .u64 (hiN a : Int), .int .u64 (loN a : Int)] 31) := ⟨_, rfl⟩
  have hB0 : Below w.heap.size w X := by rw [hX]; exact below_new (below_new (Below.refl _ _) _) _
  have r0 : RowAt X w.heap.size [.bool p.six, .int .u64 (hiN p.n : Int), .int .u64 (loN p.n : Int), .int .i64 p.len] 33 := by rw [hX]; exact (RowAt.new _ _ _).alloc _
  have r1 : RowAt X (w.heap.size + 1) [.int .u64 (hiN a : Int), .int .u64 (loN a : Int)] 31 := by rw [hX, ← World.size_alloc w (.cells #[.bool p.six, .int .u64 (hiN p.n : Int), .int .u64 (loN p.n : Int), .int .i64 p.len] 33)]; exact RowAt.new _ _ _
  cases hok : okP p
  · rw [checkP_bad hok] at cc
    rw [has_bad hok]
    clear hok
    unfold pfV adV at *
    generalize hiN p.n = h at *
    generalize loN p.n = l at *
    generalize hiN a = ah at *
    generalize loN a = al at *
    generalize p.six = sx at *
    generalize p.len = len at *
    clear hl hn ha cr
    go_enter Tryz.func124, Tryz.ntmps124
    go_wp2_with fail
    go_at_call 110; refine (cc _).mono ?_; rintro e w2 ⟨rfl, hb2⟩
    rw [← hX] at hb2
    have hW := below2 hB0 hb2
    clear hX cc hB0 r0 r1 hb2
    go_wp2_with fail
    go_ret
    exact ⟨rfl, hW⟩
  rw [checkP_ok hok] at cc
  by_cases hs : p.six = six
  · subst hs
    cases hr : rightB p.six a
    · rw [hr] at cr
      rw [has_wrong hr]
      clear hr hok
      unfold pfV adV at *
      generalize hiN p.n = h at *
      generalize loN p.n = l at *
      generalize hiN a = ah at *
      generalize loN a = al at *
      generalize p.six = sx at *
      generalize p.len = len at *
      clear hl hn ha
      go_enter Tryz.func124, Tryz.ntmps124
      go_wp2_with fail
      go_at_call 110; refine (cc _).mono ?_; rintro e w2 ⟨rfl, hb2⟩
      rw [← hX] at hb2
      have hW := below2 hB0 hb2
      obtain ⟨q0, q1, q2, q3, qf⟩ := cells4 (r0.below hb2)
      obtain ⟨p0, p1, pf⟩ := cells2 (r1.below hb2)
      clear hX cc hB0 r0 r1 hb2
      go_wp2_with fail
      go_at_call 40; refine (cr _).mono ?_; rintro e w3 ⟨rfl, hb3⟩
      have hW := below2 hW hb3
      clear cr
      go_wp2_with fail
      go_ret
      exact ⟨rfl, hW⟩
    · rw [hr] at cr
      obtain ⟨hA, hC⟩ := has_bits hok hr
      have c1 := fun w => rbits_any p.six p.n w hn
      have c2 := fun w => rbits_any p.six a w ha
      unfold BitsIs at c1 c2
      rw [bitL_len] at c1 c2
      have hle := (okP_iff.1 hok).1
      have hWl := wideN_le p.six
      generalize hasB p p.six a = R at *
      obtain ⟨sx, n, len⟩ := p
      simp only at *
      obtain ⟨W, hWd⟩ : ∃ W, W = wideN sx := ⟨_, rfl⟩
      rw [← hWd] at c1 c2 hA hC hle hWl
      obtain ⟨L, hL⟩ : ∃ L : Nat, len = (L : Int) := ⟨len.toNat, by omega⟩
      subst hL
      rw [Int.toNat_natCast] at hA hC
      have hLW : L ≤ W := by omega
      have hWi : (W : Int) ≤ 128 := by omega
      have HA : Hid ((∀ j, j < L → n.testBit (W - 1 - j) = a.testBit (W - 1 - j)) → R = true) := hA
      have HC : Hid (∀ j, j < L → n.testBit (W - 1 - j) ≠ a.testBit (W - 1 - j) → R = false) := hC
      clear hr hok hA hC hl hn ha hWd hle
      unfold pfV adV at *
      simp only at *
      generalize hiN n = h at *
      generalize loN n = l at *
      generalize hiN a = ah at *
      generalize loN a = al at *
      go_enter Tryz.func124, Tryz.ntmps124
      go_wp2_with fail
      go_at_call 110; refine (cc _).mono ?_; rintro e w2 ⟨rfl, hb2⟩
      rw [← hX] at hb2
      have hW := below2 hB0 hb2
      have r0 := r0.below hb2
      have r1 := r1.below hb2
      obtain ⟨q0, q1, q2, q3, qf⟩ := cells4 r0
      obtain ⟨p0, p1, pf⟩ := cells2 r1
      clear hX cc hB0 hb2
      go_wp2_with fail
      go_at_call 40; refine (cr _).mono ?_; rintro e w3 ⟨rfl, hb3⟩
      have hW := below2 hW hb3
      have r0 := r0.below hb3
      have r1 := r1.below hb3
      clear q0 q1 q2 q3 qf p0 p1 pf cr hb3
      go_upto_region 3 with fail
      have HSK : Hid (∀ V, Below w3.heap.size w3 V → (V.cell? ⟨w.heap.size, 1, none⟩ = some (.int .u64 (h : Int)) ∧ V.cell? ⟨w.heap.size, 2, none⟩ = some (.int .u64 (l : Int)) ∧ V.cell? ⟨w.heap.size + 1, 0, none⟩ = some (.int .u64 (ah : Int)) ∧ V.cell? ⟨w.heap.size + 1, 1, none⟩ = some (.int .u64 (al : Int)))) := fun V hb => ⟨(r0.below hb).cell 1, (r0.below hb).cell 2, (r1.below hb).cell 0, (r1.below hb).cell 1⟩
      have HR0 : Hid (∀ V, Below w3.heap.size w3 V → V.cell? ⟨w.heap.size, 3, none⟩ = some (.int .i64 (L : Int))) := fun V hb => (r0.below hb).cell 3
      go_cut [7, 8] (fun x y wc => ∃ g1 g2, x = .slice (some ⟨g1, 0, none⟩) W W ∧ y = .slice (some ⟨g2, 0, none⟩) W W ∧ RowAt wc g1 (celN (bitL W n)) 3 ∧ RowAt wc g2 (celN (bitL W a)) 3 ∧ Below w3.heap.size w3 wc)
      case first =>
        have hbA : Below w3.heap.size w3 w3 := Below.refl _ _
        clear r0 r1 HR0
        go_region_held3 (fun w' => w'.cell? ⟨w.heap.size, 1, none⟩ = some (.int .u64 (h : Int)) ∧ w'.cell? ⟨w.heap.size, 2, none⟩ = some (.int .u64 (l : Int)) ∧ w'.cell? ⟨w.heap.size + 1, 0, none⟩ = some (.int .u64 (ah : Int)) ∧ w'.cell? ⟨w.heap.size + 1, 1, none⟩ = some (.int .u64 (al : Int)))
          (first
            | (refine HSK.out _ ?_
               repeat' (first | with_reducible exact hbA | with_reducible apply below_drew)))
          (first
            | (go_at_call 142; with_reducible refine (c1 _).mono ?_; rintro e w4 ⟨g1, rfl, hg1, hrow1, hb4⟩
               have hbN : Below w3.heap.size w3 w4 := below2 (by repeat' (first | with_reducible exact hbA | with_reducible apply below_drew)) hb4
               clear hbA hb4 hg1
               have hbA := hbN
               clear hbN)
            | (go_at_call 142; with_reducible refine (c2 _).mono ?_; rintro e w5 ⟨g2, rfl, hg2, hrow2, hb5⟩
               have hbN : Below w3.heap.size w3 w5 := below2 (by repeat' (first | with_reducible exact hbA | with_reducible apply below_drew)) hb5
               have hrow1' := hrow1.below hb5
               clear hbA hb5 hg2
               have hbA := hbN
               clear hbN))
        go_wp2_with fail
        go_meet
        exact ⟨g1, g2, rfl, rfl, hrow1', hrow2, hbA⟩
      case rest =>
        obtain ⟨g1, g2, rfl, rfl, hrow1, hrow2, hbc⟩ := hcut
        have hW := below2 hW hbc
        have q3 := HR0.out wc hbc
        have HC1 : Hid (∀ j, j < W → wc.cell? ⟨g1, j, none⟩ = some (.int .i64 ((n.testBit (W - 1 - j)).toNat : Int))) := fun j hj => by
          rw [hrow1.cell, celN_get _ _ (by rw [bitL_len]; exact hj), bitL_get W n j hj]
        have HC2 : Hid (∀ j, j < W → wc.cell? ⟨g2, j, none⟩ = some (.int .i64 ((a.testBit (W - 1 - j)).toNat : Int))) := fun j hj => by
          rw [hrow2.cell, celN_get _ _ (by rw [bitL_len]; exact hj), bitL_get W a j hj]
        have HQ3 : Hid (∀ V : World, V.heap = wc.heap → V.cell? ⟨w.heap.size, 3, none⟩ = some (.int .i64 (L : Int))) := fun V hV => by rw [← q3]; unfold World.cell?; rw [hV]
        clear hrow1 hrow2 hbc HSK HR0 r0 r1 c1 c2 q3
        go_wp2_with fail
        go_loopw [9] (fun i wr => ∃ k : Nat, k ≤ L ∧ i = .int .i64 (k : Int) ∧ Hid (∀ j, j < k → n.testBit (W - 1 - j) = a.testBit (W - 1 - j)) ∧ wr.heap = wc.heap ∧ Below w.heap.size w wr) (fun i _ => L - (intOf i).toNat)
        case atStart => exact ⟨0, by omega, rfl, (fun j hj => by omega), rfl, hW⟩
        case round =>
          obtain ⟨k, hk, rfl, HK, hh, hb⟩ := hrel
          clear hW
          have q3 := HQ3.out wr hh
          by_cases hlt : k < L
          · have hki : (k : Int) < (L : Int) := by omega
            have hkw : (k : Int) < (W : Int) := by omega
            have e1 : wr.cell? ⟨g1, k, none⟩ = some (.int .i64 ((n.testBit (W - 1 - k)).toNat : Int)) := by rw [← HC1.out k (by omega)]; unfold World.cell?; rw [hh]
            have e2 : wr.cell? ⟨g2, k, none⟩ = some (.int .i64 ((a.testBit (W - 1 - k)).toNat : Int)) := by rw [← HC2.out k (by omega)]; unfold World.cell?; rw [hh]
            have HH : Hid (wr.heap = wc.heap) := hh
            by_cases heq : n.testBit (W - 1 - k) = a.testBit (W - 1 - k)
            · have HK2 : Hid (∀ j, j < k + 1 → n.testBit (W - 1 - j) = a.testBit (W - 1 - j)) := fun j hj => by
                by_cases hjk : j < k
                · exact HK.out j hjk
                · rw [show j = k by omega]; exact heq
              rw [heq] at e1
              generalize ((a.testBit (W - 1 - k)).toNat : Int) = z at e1 e2
              clear hh heq
              go_wp2_with fail
              go_region
              go_wp2_with fail
              go_roundw
              case rel => exact ⟨k + 1, by omega, by go_num, HK2, HH.out, below_drew hb⟩
              case measure => simp [intOf]; omega
            · have HV : Hid (R = false) := HC.out k hlt heq
              have hzne : (((n.testBit (W - 1 - k)).toNat : Int) != ((a.testBit (W - 1 - k)).toNat : Int)) = true := by
                revert heq; cases n.testBit (W - 1 - k) <;> cases a.testBit (W - 1 - k) <;> simp
              generalize ((n.testBit (W - 1 - k)).toNat : Int) = y at e1 hzne
              generalize ((a.testBit (W - 1 - k)).toNat : Int) = z at e2 hzne
              clear hh heq
              go_wp2_with fail
              go_region
              go_wp2_with fail
              go_ret
              exact ⟨by rw [HV.out]; rfl, below_drew hb⟩
          · obtain rfl : k = L := by omega
            have HV : Hid (R = true) := HA.out HK.out
            clear HK hh
            go_wp2_with fail
            go_ret
            exact ⟨by rw [HV.out]; rfl, hb⟩
  · have hs2 : (p.six != six) = true := by simpa using hs
    have HV : hasB p six a = false := by unfold hasB; rw [decide_eq_false hs]; simp
    rw [HV]
    clear HV hok
    have hs3 : six = !p.six := by revert hs; cases six <;> cases p.six <;> simp
    subst hs3
    unfold pfV adV at *
    generalize hiN p.n = h at *
    generalize loN p.n = l at *
    generalize hiN a = ah at *
    generalize loN a = al at *
    generalize p.six = sx at *
    generalize p.len = len at *
    clear hl hn ha cr hs hs2
    go_enter Tryz.func124, Tryz.ntmps124
    go_wp2_with fail
    go_at_call 110; refine (cc _).mono ?_; rintro e w2 ⟨rfl, hb2⟩
    rw [← hX] at hb2
    have hW := below2 hB0 hb2
    obtain ⟨q0, q1, q2, q3, qf⟩ := cells4 (r0.below hb2)
    clear hX cc hB0 r0 r1 hb2
    go_wp2_with fail
    go_ret
    exact ⟨rfl, hW⟩
end Go.Proofs.YtbglbegljkgknaaGreat.Addr
namespace Go.Proofs.YtbglbegljkgknaaGreat.Tr
open Go.RowKit
open Go.Proofs.YtbglbegljkgknaaGreat.Msg (Ac okA FitA)
open Go.Proofs.YtbglbegljkgknaaGreat.Lk (HasRow)
open Go.Proofs.YtbglbegljkgknaaGreat.Addr (Pf okP hasB cmpN hiN loN pfV adV RowAt below2 below_drew below_new bset gset grefl RowAt.gkeep RowAt.lt RowAt.cell RowAt.frozen RowAt.below RowAt.drew RowAt.new RowAt.alloc RowAt.set1 RowAt.far1 cells2 cells4)
def startR : Rt := ⟨⟨false, 0, -1⟩, ⟨0, 0⟩⟩
def stepR (six : Bool) (a : Nat) (b r : Rt) : Rt := if decide (b.pf.len < r.pf.len) && hasB r.pf six a then r else b
def bestF (six : Bool) (a : Nat) (l : List Rt) : Rt := l.foldl (stepR six a) startR
def bestT (l : List Rt) (six : Bool) (a : Nat) : Rt × Bool := if (bestF six a l).pf.len < 0 then (zeroR, false) else (bestF six a l, true)
theorem best_last {six : Bool} {a : Nat} : ∀ (l : List Rt), Up l → bestF six a l = (l.filter (hasR six a)).getLast?.getD startR := by
  intro l
  unfold bestF
  rw [← List.reverse_reverse l]
  generalize l.reverse = m
  induction m with
  | nil => intro _; rfl
  | cons r m ih =>
    intro hu
    rw [List.reverse_cons] at hu ⊢
    have hp := List.pairwise_append.1 hu
    have ih := ih hp.1
    rw [List.foldl_append, ih, List.filter_append]
    show stepR six a _ r = _
    unfold stepR
    cases hh : hasB r.pf six a with
    | false =>
      rw [Bool.and_false, List.filter_cons_of_neg (by unfold hasR; rw [hh]; simp)]
      simp
    | true =>
      rw [List.filter_cons_of_pos (by unfold hasR; exact hh), List.filter_nil]
      have hlt : ((m.reverse.filter (hasR six a)).getLast?.getD startR).pf.len < r.pf.len := by
        cases hL : (m.reverse.filter (hasR six a)).getLast? with
        | none =>
          have := (ok_parts (has_ok hh)).1
          show (-1 : Int) < _
          omega
        | some y =>
          have hy := List.mem_of_getLast? hL
          obtain ⟨h1, h2⟩ := List.mem_filter.1 hy
          exact (later_long (hp.2.2 y h1 r (by simp)) h2 hh).1
      rw [decide_eq_true hlt]
      simp
theorem best_long {l : List Rt} {six : Bool} {a : Nat} (hl : okT l = true) (ha : Addr.rightB six a = true) : bestT l six a = ((longT l six a).1, decide ((longT l six a).2 = 0)) := by
  have hu := ((okT_iff l).1 hl).2.2
  have hok := ((okT_iff l).1 hl).2.1
  unfold bestT longT
  rw [best_last l hu, hl, ha]
  simp only [Bool.and_self, if_true]
  unfold lastR codeR
  cases hL : (l.filter (hasR six a)).getLast? with
  | none =>
    have he := List.getLast?_eq_none_iff.1 hL
    rw [he]
    rfl
  | some y =>
    have hy := List.mem_of_getLast? hL
    obtain ⟨h1, h2⟩ := List.mem_filter.1 hy
    have h3 := (ok_parts (has_ok h2)).1
    have hne : (l.filter (hasR six a)).length ≠ 0 := fun e => by
      rw [List.length_eq_zero_iff] at e
      rw [e] at hy
      cases hy
    simp only [Option.getD_some]
    rw [if_neg (by omega), if_neg hne]
    rfl
theorem bestF_fit {l : List Rt} (hf : ∀ x ∈ l, FitR x) (six : Bool) (a : Nat) : FitR (bestF six a l) := by
  unfold bestF
  have h0 : FitR startR := ⟨⟨by decide, by decide⟩, by decide, by decide, by decide⟩
  generalize startR = s at h0
  induction l generalizing s with
  | nil => exact h0
  | cons r l ih =>
    refine ih (fun x hx => hf x (List.mem_cons_of_mem _ hx)) _ ?_
    unfold stepR
    split
    · exact hf r List.mem_cons_self
    · exact h0
theorem set6_row {W : World} {B : Nat} {c0 c1 c2 c3 c4 c5 : Value} {t : TypeId} (h : RowAt W B [c0, c1, c2, c3, c4, c5] t) (x0 x1 x2 x3 x4 x5 : Value) : RowAt ((((((W.setCell ⟨B, 0, none⟩ x0).setCell ⟨B, 1, none⟩ x1).setCell ⟨B, 2, none⟩ x2).setCell ⟨B, 3, none⟩ x3).setCell ⟨B, 4, none⟩ x4).setCell ⟨B, 5, none⟩ x5) B [x0, x1, x2, x3, x4, x5] t := (((((h.set1 0 x0).set1 1 x1).set1 2 x2).set1 3 x3).set1 4 x4).set1 5 x5
theorem set6_bl {b0 B : Nat} {w0 W : World} (h : Below b0 w0 W) (hb : b0 ≤ B) (x0 x1 x2 x3 x4 x5 : Value) : Below b0 w0 ((((((W.setCell ⟨B, 0, none⟩ x0).setCell ⟨B, 1, none⟩ x1).setCell ⟨B, 2, none⟩ x2).setCell ⟨B, 3, none⟩ x3).setCell ⟨B, 4, none⟩ x4).setCell ⟨B, 5, none⟩ x5) := bset (bset (bset (bset (bset (bset h hb) hb) hb) hb) hb) hb
theorem six_of {W : World} {B : Nat} {c0 c1 c2 c3 c4 c5 : Value} {t : TypeId} (h : RowAt W B [c0, c1, c2, c3, c4, c5] t) : W.cell? ⟨B, 0, none⟩ = some c0 ∧ W.cell? ⟨B, 1, none⟩ = some c1 ∧ W.cell? ⟨B, 2, none⟩ = some c2 ∧ W.cell? ⟨B, 3, none⟩ = some c3 ∧ W.cell? ⟨B, 4, none⟩ = some c4 ∧ W.cell? ⟨B, 5, none⟩ = some c5 ∧ ∀ k, W.frozen? ⟨B, k, none⟩ = false := ⟨h.cell 0, h.cell 1, h.cell 2, h.cell 3, h.cell 4, h.cell 5, h.frozen⟩
/-- the box of the best route, and what lies ahead of it -/
structure BestI (g : Nat) (V W : World) (r : Rt) : Prop where
  row : RowAt W g [.bool r.pf.six, .int .u64 (hiN r.pf.n : Int), .int .u64 (loN r.pf.n : Int), .int .i64 r.pf.len, .int .u8 (r.act.k : Int), .int .i64 r.act.i] 105
  bel : Below g V W
set_option maxHeartbeats 8000000 in
set_option maxRecDepth 20000 in
theorem best_any (l : List Rt) (v : Value) (six : Bool) (a : Nat) (w : World) (hl : HasRts w v l) (hf : ∀ x ∈ l, FitR x) (ha : a < 2 ^ 128) :
    Calls Tryz.prog 97 #[v, .bool six, .agg #[.int .u64 (hiN a : Int), .int .u64 (loN a : Int)]] w fun e w' => e = .returned (.tuple #[rtA (bestT l six a).1, .bool (bestT l six a).2]) ∧ Below w.heap.size w w' := by
  obtain ⟨o, c, rfl, hc1, hc2⟩ := Lk.HasRow.slice hl
  have HL : Hid (∀ W, Below w.heap.size w W → HasRts W (.slice o l.length c) l) := fun W hb => hl.keep hb
  have HHas : Hid (∀ (r : Rt), r ∈ l → ∀ W, Calls Tryz.prog 124 #[.agg #[.bool r.pf.six, .int .u64 (hiN r.pf.n : Int), .int .u64 (loN r.pf.n : Int), .int .i64 r.pf.len], .bool six, .agg #[.int .u64 (hiN a : Int), .int .u64 (loN a : Int)]] W fun e w' => e = .returned (.bool (hasB r.pf six a)) ∧ Below W.heap.size W w') := fun r hr W => Addr.rhas_any r.pf six a W (hf r hr).1.1 (hf r hr).1.2 ha
  have HT : Hid (bestT l six a = if (bestF six a l).pf.len < 0 then (zeroR, false) else (bestF six a l, true)) := rfl
  generalize bestT l six a = T at HT ⊢
  obtain ⟨n, hn⟩ : ∃ n, n = l.length := ⟨_, rfl⟩
  have HN : Hid (n = l.length) := hn
  rw [← hn] at HL hc1 ⊢
  have hni : (n : Int) ≤ 9223372036854775807 := by omega
  clear hl hf ha hn
  obtain ⟨ah, hah⟩ : ∃ x : Int, x = (hiN a : Int) := ⟨_, rfl⟩
  obtain ⟨al, hal⟩ : ∃ x : Int, x = (loN a : Int) := ⟨_, rfl⟩
  rw [← hah, ← hal] at HHas ⊢
  clear hah hal
  obtain ⟨X, hX⟩ : ∃ X, X = ((w.alloc (.cells #[.int .u64 ah, .int .u64 al] 31)).alloc (.cells #[.bool false, .int .u64 0, .int .u64 0, .int .i64 0, .int .u8 0, .int .i64 0] 105)).alloc (.cells #[.bool false, .int .u64 0, .int .u64 0, .int .i64 (-1), .int .u8 0, .int .i64 0] 105) := ⟨_, rfl⟩
  have hB : Below w.heap.size w X := by rw [hX]; exact below_new (below_new (below_new (Below.refl _ _) _) _) _
  have r0 : RowAt X w.heap.size [.int .u64 ah, .int .u64 al] 31 := by rw [hX]; exact ((RowAt.new _ _ _).alloc _).alloc _
  have r1 : RowAt X (w.heap.size + 1) [.bool false, .int .u64 0, .int .u64 0, .int .i64 0, .int .u8 0, .int .i64 0] 105 := by rw [hX, ← World.size_alloc w (.cells #[.int .u64 ah, .int .u64 al] 31)]; exact (RowAt.new _ _ _).alloc _
  have r2 : RowAt X (w.heap.size + 2) [.bool false, .int .u64 0, .int .u64 0, .int .i64 (-1), .int .u8 0, .int .i64 0] 105 := by rw [hX, show w.heap.size + 2 = ((w.alloc (.cells #[.int .u64 ah, .int .u64 al] 31)).alloc (.cells #[.bool false, .int .u64 0, .int .u64 0, .int .i64 0, .int .u8 0, .int .i64 0] 105)).heap.size by simp]; exact RowAt.new _ _ _
  have HI0 : Hid (BestI (w.heap.size + 2) X X (bestF six a (l.take 0))) := ⟨by
    show RowAt X _ [.bool false, .int .u64 ((hiN 0 : Nat) : Int), .int .u64 ((loN 0 : Nat) : Int), .int .i64 (-1), .int .u8 ((0 : Nat) : Int), .int .i64 0] _
    rw [Msg.hi0, Msg.lo0]
    exact r2, Below.refl _ _⟩
  obtain ⟨g, hg⟩ : ∃ g, g = w.heap.size + 2 := ⟨_, rfl⟩
  have hg0 : w.heap.size < g := by omega
  have hg1 : w.heap.size + 1 < g := by omega
  have hge : w.heap.size ≤ g := by omega
  rw [← hg] at HI0
  clear r2
  go_enter Tryz.func97, Tryz.ntmps97
  go_upto_region 2 with fail
  rw [← hX]
  rw [show w.heap.size + 1 + 1 = w.heap.size + 2 from rfl, ← hg]
  clear hX hg
  go_wp2_with fail
  go_loopw [15] (fun i wr => ∃ k : Nat, k ≤ n ∧ i = .int .i64 k ∧ Hid (BestI g X wr (bestF six a (l.take k)))) (fun i _ => n - (Go.RowKit.intOf i).toNat)
  case atStart => exact ⟨0, by omega, rfl, HI0⟩
  case round =>
    obtain ⟨k, hk, rfl, HI⟩ := hrel
    have hBr : Below w.heap.size w wr := hB.trans (HI.out.bel.mono hge)
    by_cases hlt : k < n
    · have hkz : k < l.length := by rw [← HN.out]; exact hlt
      obtain ⟨g1, i1, rfl, hg1', ax⟩ := HasRts.cell (HL.out _ hBr) k hkz
      obtain ⟨a0, a1, a2, a3, a4, a5⟩ := six_at ax
      clear ax
      have HS : Hid (bestF six a (l.take (k + 1)) = stepR six a (bestF six a (l.take k)) l[k]) := by
        show _ = _
        unfold bestF
        rw [List.take_succ_eq_append_getElem hkz, List.foldl_append]
        rfl
      have cH := HHas.out l[k] (List.getElem_mem hkz)
      obtain ⟨nb, hnb⟩ : ∃ nb, nb = bestF six a (l.take (k + 1)) := ⟨_, rfl⟩
      have HNB : Hid (bestF six a (l.take (k + 1)) = nb) := hnb.symm
      replace HS : Hid (nb = stepR six a (bestF six a (l.take k)) l[k]) := hnb.trans HS.out
      clear hnb
      have hrow := HI.out.row
      have hbel := HI.out.bel
      clear HI
      generalize bestF six a (l.take k) = b at HS hrow
      have HS2 : Hid (nb = if decide (b.pf.len < l[k].pf.len) && hasB l[k].pf six a then l[k] else b) := HS.out
      clear HS
      generalize hasB l[k].pf six a = hh at HS2 cH
      have HST : Hid (∀ W, RowAt W g [.bool l[k].pf.six, .int .u64 (hiN l[k].pf.n : Int), .int .u64 (loN l[k].pf.n : Int), .int .i64 l[k].pf.len, .int .u8 (l[k].act.k : Int), .int .i64 l[k].act.i] 105 → Below g X W → BestI g X W l[k]) := fun W a b => ⟨a, b⟩
      have HSB : Hid (∀ W, RowAt W g [.bool b.pf.six, .int .u64 (hiN b.pf.n : Int), .int .u64 (loN b.pf.n : Int), .int .i64 b.pf.len, .int .u8 (b.act.k : Int), .int .i64 b.act.i] 105 → Below g X W → BestI g X W b) := fun W a b => ⟨a, b⟩
      have HSL : Hid (∀ q : Bool, q = decide (b.pf.len < l[k].pf.len) → nb = if q && hh then l[k] else b) := fun q e => by rw [e]; exact HS2.out
      clear HS2
      generalize (hiN b.pf.n : Int) = b1 at hrow HSB
      generalize (loN b.pf.n : Int) = b2 at hrow HSB
      generalize b.pf.six = b0 at hrow HSB
      generalize b.act.i = b5 at hrow HSB
      generalize (b.act.k : Int) = b4 at hrow HSB
      generalize (hiN l[k].pf.n : Int) = s1 at a1 cH HST
      generalize (loN l[k].pf.n : Int) = s2 at a2 cH HST
      generalize l[k].pf.six = s0 at a0 cH HST
      generalize l[k].act.i = s5 at a5 HST
      generalize (l[k].act.k : Int) = s4 at a4 HST
      generalize b.pf.len = b3 at hrow HSB HSL
      generalize l[k].pf.len = s3 at a3 cH HST HSL
      have hki : (k : Int) < (n : Int) := by omega
      obtain ⟨Y, hY⟩ : ∃ Y, Y = wr.alloc (.cells #[.bool s0, .int .u64 s1, .int .u64 s2, .int .i64 s3, .int .u8 s4, .int .i64 s5] 105) := ⟨_, rfl⟩
      have hbY : Below wr.heap.size wr Y := by rw [hY]; exact below_new (Below.refl _ _) _
      have rY : RowAt Y wr.heap.size [.bool s0, .int .u64 s1, .int .u64 s2, .int .i64 s3, .int .u8 s4, .int .i64 s5] 105 := by rw [hY]; exact RowAt.new _ _ _
      have hgw : g < wr.heap.size := hrow.lt
      go_upto_region 5 with fail
      rw [← hY]
      clear hY a0 a1 a2 a3 a4 a5 hg1'
      obtain ⟨gy, hgy⟩ : ∃ gy, gy = wr.heap.size := ⟨_, rfl⟩
      have hne : gy ≠ g := by omega
      rw [← hgy] at rY ⊢
      clear hgy
      have rB := RowAt.below hrow hbY
      have hbG : Below g X Y := hbel.trans (hbY.mono (by omega))
      have rA : RowAt Y w.heap.size [.int .u64 ah, .int .u64 al] 31 := (hbG.block _ hg0).trans r0
      obtain ⟨y0, y1, y2, y3, y4, y5, yf⟩ := six_of rY
      obtain ⟨z0, z1, z2, z3, z4, z5, zf⟩ := six_of rB
      cases hq : decide (b3 < s3)
      · have HE : Hid (nb = b) := HSL.out false (by rw [hq])
        clear HSL
        go_wp2_with fail
        go_roundw
        case rel => exact ⟨k + 1, by omega, by go_num, by show BestI _ _ _ _; rw [HNB.out, HE.out]; exact HSB.out _ rB hbG⟩
        case measure => simp [Go.RowKit.intOf]; omega
      · have HE : Hid (nb = if hh then l[k] else b) := by have := HSL.out true (by rw [hq]); show _ = _; rw [this]; simp
        clear HSL
        obtain ⟨x0, x1, xf⟩ := cells2 rA
        go_wp2_with fail
        clear y0 y1 y2 y3 y4 y5 yf z0 z1 z2 z3 z4 z5 zf x0 x1 xf
        go_at_call 124; refine (cH _).mono ?_; rintro e w3 ⟨rfl, hb3⟩
        have hbG3 : Below g X w3 := hbG.trans (hb3.mono (by have := rB.lt; omega))
        replace rB := RowAt.below rB hb3
        replace rY := RowAt.below rY hb3
        obtain ⟨y0, y1, y2, y3, y4, y5, yf⟩ := six_of rY
        obtain ⟨z0, z1, z2, z3, z4, z5, zf⟩ := six_of rB
        cases hh
        · have HE2 : Hid (nb = b) := HE.out
          clear HE
          go_wp2_with fail
          go_roundw
          case rel => exact ⟨k + 1, by omega, by go_num, by show BestI _ _ _ _; rw [HNB.out, HE2.out]; exact HSB.out _ rB hbG3⟩
          case measure => simp [Go.RowKit.intOf]; omega
        · have HE2 : Hid (nb = l[k]) := HE.out
          clear HE
          go_wp2_with fail
          go_roundw
          case rel => exact ⟨k + 1, by omega, by go_num, by show BestI _ _ _ _; rw [HNB.out, HE2.out]; exact HST.out _ (set6_row rB _ _ _ _ _ _) (set6_bl hbG3 (Nat.le_refl _) _ _ _ _ _ _)⟩
          case measure => simp [Go.RowKit.intOf]; omega
    · have hkn : k = n := by omega
      have HE : Hid (bestF six a (l.take k) = bestF six a l) := by show _ = _; rw [List.take_of_length_le (by rw [← HN.out]; omega)]
      have hrow := HI.out.row
      have hbel := HI.out.bel
      rw [HE.out] at hrow
      clear HI HE hkn
      have hkf : decide ((k : Int) < (n : Int)) = false := decide_eq_false (by omega)
      have HT2 : Hid (∀ q : Bool, q = decide ((bestF six a l).pf.len < 0) → T = if q then (zeroR, false) else (bestF six a l, true)) := fun q e => by rw [e, HT.out]; by_cases h : (bestF six a l).pf.len < 0 <;> simp [h]
      have HV : Hid (rtA (bestF six a l) = rtA (bestF six a l)) := rfl
      have hV : rtA (bestF six a l) = .agg #[.bool (bestF six a l).pf.six, .int .u64 (hiN (bestF six a l).pf.n : Int), .int .u64 (loN (bestF six a l).pf.n : Int), .int .i64 (bestF six a l).pf.len, .int .u8 ((bestF six a l).act.k : Int), .int .i64 (bestF six a l).act.i] := rfl
      clear HT HV
      generalize bestF six a l = b at hrow HT2 hV
      have HV : Hid (rtA b = .agg #[.bool b.pf.six, .int .u64 (hiN b.pf.n : Int), .int .u64 (loN b.pf.n : Int), .int .i64 b.pf.len, .int .u8 (b.act.k : Int), .int .i64 b.act.i]) := hV
      clear hV
      generalize (hiN b.pf.n : Int) = b1 at hrow HV
      generalize (loN b.pf.n : Int) = b2 at hrow HV
      generalize b.pf.six = b0 at hrow HV
      generalize b.act.i = b5 at hrow HV
      generalize (b.act.k : Int) = b4 at hrow HV
      generalize b.pf.len = b3 at hrow HV HT2
      have rR : RowAt wr (w.heap.size + 1) [.bool false, .int .u64 0, .int .u64 0, .int .i64 0, .int .u8 0, .int .i64 0] 105 := (hbel.block _ hg1).trans r1
      obtain ⟨z0, z1, z2, z3, z4, z5, zf⟩ := six_of hrow
      obtain ⟨y0, y1, y2, y3, y4, y5, yf⟩ := six_of rR
      cases hq : decide (b3 < 0)
      · have HW : Hid (T = (b, true)) := HT2.out false (by rw [hq])
        clear HT2
        go_wp2_with fail
        (try simp only [Exit.inBlock, Exit.then])
        refine bodyPost_ret (v := .tuple #[.agg #[.bool b0, .int .u64 b1, .int .u64 b2, .int .i64 b3, .int .u8 b4, .int .i64 b5], .bool true]) ?_ rfl ⟨by rw [HW.out]; show _ = Ending.returned (.tuple #[rtA b, .bool true]); rw [HV.out], ?_⟩
        · rw [results_cell_tmp rfl]
          go_simp
        · exact set6_bl hBr (by omega) _ _ _ _ _ _
      · have HW : Hid (T = (zeroR, false)) := HT2.out true (by rw [hq])
        clear HT2
        go_wp2_with fail
        (try simp only [Exit.inBlock, Exit.then])
        refine bodyPost_ret (v := .tuple #[.agg #[.bool false, .int .u64 0, .int .u64 0, .int .i64 0, .int .u8 0, .int .i64 0], .bool false]) ?_ rfl ⟨by rw [HW.out]; show _ = Ending.returned (.tuple #[rtA zeroR, .bool false]); unfold rtA zeroR; simp only [Msg.hi0, Msg.lo0]; rfl, ?_⟩
        · rw [results_cell_tmp rfl]
          go_simp
        · exact set6_bl hBr (by omega) _ _ _ _ _ _
end Go.Proofs.YtbglbegljkgknaaGreat.Tr
