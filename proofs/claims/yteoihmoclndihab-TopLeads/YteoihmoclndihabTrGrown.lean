/- The trie of right routes: trie.planted, trie.grown. -/
import Derived.Test.YteoihmoclndihabTrUnder2
import Derived.Laws.Cover3
set_option linter.unusedVariables false
namespace Go.Proofs.Yteoihmoclndihab.Tr
open Go.RowKit
open Go.Proofs.Yteoihmoclndihab.Lk (HasRow)
open Go.Proofs.Yteoihmoclndihab.Addr (Pf okP wideN kP hasB coversB rightB hiN loN pfV RowAt below2 below_drew below_new bset RowAt.lt RowAt.cell RowAt.frozen RowAt.below RowAt.drew RowAt.new RowAt.alloc RowAt.set1 cells2)
def rootP (six : Bool) : Pf := ⟨six, 0, 0⟩
theorem root_ok (six : Bool) : okP (rootP six) = true := by cases six <;> decide
theorem root_covers (six : Bool) {x : Pf} (hx : okP x = true) : coversB (rootP six) x = decide (x.six = six) := by
  have hp := ok_parts hx
  by_cases h : x.six = six
  · rw [decide_eq_true h]
    have hh : hasB (rootP six) x.six x.n = true := (has_iff (root_ok six) _ _).2 ⟨h.symm, hp.2.2.1, Nat.zero_le _, by
      show x.n < 0 + 2 ^ (wideN six - 0)
      rw [← h]
      simpa using hp.2.2.1⟩
    unfold coversB
    rw [hx, hh, decide_eq_true (show (rootP six).len ≤ x.len from hp.1)]
    rfl
  · rw [decide_eq_false h]
    cases hc : coversB (rootP six) x with
    | false => rfl
    | true => exact absurd (covers_six hc) h
/-- the routes of a kind's addresses -/
theorem kinds_of {L : List Rt} {j : Nat} (hu : Up L) (hok : ∀ x ∈ L, okP x.pf = true) (hj : j ≤ L.length) (h1 : ∀ x ∈ L.take j, coversB (rootP false) x.pf = true) (h2 : ∀ h : j < L.length, coversB (rootP false) L[j].pf = false) : (∀ x ∈ L.take j, x.pf.six = false) ∧ ∀ x ∈ L.drop j, x.pf.six = true := by
  refine ⟨fun x hx => covers_six (h1 x hx), fun x hx => ?_⟩
  obtain ⟨i, hi, rfl⟩ := List.getElem_of_mem hx
  rw [List.length_drop] at hi
  rw [List.getElem_drop]
  have hjl : j < L.length := by omega
  have h3 := h2 hjl
  rw [root_covers false (hok _ (List.getElem_mem hjl))] at h3
  have h4 : L[j].pf.six = true := by
    cases h : L[j].pf.six with
    | true => rfl
    | false => rw [h] at h3; simp at h3
  by_cases e : i = 0
  · subst e; exact h4
  · have h5 := List.pairwise_iff_getElem.1 hu j (j + i) hjl (by omega) (by omega)
    unfold ltP at h5
    rcases h5 with ⟨a, _⟩ | ⟨a, _⟩
    · rw [h4] at a; cases a
    · rw [← a]; exact h4
theorem filter_kind {L K R : List Rt} {six : Bool} (h : L = K ++ R ∨ L = R ++ K) (hR : ∀ x ∈ R, x.pf.six ≠ six) (a : Nat) : K.filter (hasR six a) = L.filter (hasR six a) := by
  have hz : R.filter (hasR six a) = [] := by
    rw [List.filter_eq_nil_iff]
    intro x hx hc
    have hh : hasB x.pf six a = true := hc
    exact hR x hx ((has_iff (has_ok hh) _ _).1 hh).1
  rcases h with rfl | rfl
  · rw [List.filter_append, hz, List.append_nil]
  · rw [List.filter_append, hz, List.nil_append]
theorem index2 (w : World) : (Instr.index 116 (.agg #[.bool false, .bool true]) (.int .i64 0)).run Try.prog w = .ok (.bool false) w ∧ (Instr.index 116 (.agg #[.bool false, .bool true]) (.int .i64 1)).run Try.prog w = .ok (.bool true) w := by
  have h : Try.prog.underlying 116 = some (.array 2 4) := Try.underlying116
  have hz : ∀ w, (Go.sizeOf 4).run Try.prog w = .ok 1 w := fun w => Try.sizeOf4 w
  refine ⟨?_, ?_⟩ <;> simp [Instr.index, run_underlying h, asIntOf, hz, go_sem]
/-- a trie in memory -/
structure TrieAt (B : Nat) (W : World) (g : Nat) (u0 u1 : Value) (N : Nat) (K0 K1 : List Rt) : Prop where
  row : RowAt W g [u0, u1] 106
  t0 : HasTrie N W (fun b => B ≤ b ∧ b < W.heap.size) false u0 K0
  t1 : HasTrie N W (fun b => B ≤ b ∧ b < W.heap.size) true u1 K1
  ge : B ≤ g
theorem TrieAt.below {B : Nat} {W W' : World} {g N : Nat} {u0 u1 : Value} {K0 K1 : List Rt} (h : TrieAt B W g u0 u1 N K0 K1) (hb : Below W.heap.size W W') : TrieAt B W' g u0 u1 N K0 K1 :=
  ⟨h.row.below hb, (h.t0.below (fun b hb => hb.2) hb).mono _ (fun b h => ⟨h.1, Nat.lt_of_lt_of_le h.2 hb.size⟩), (h.t1.below (fun b hb => hb.2) hb).mono _ (fun b h => ⟨h.1, Nat.lt_of_lt_of_le h.2 hb.size⟩), h.ge⟩
set_option maxHeartbeats 8000000 in
set_option maxRecDepth 20000 in
theorem planted_any (L : List Rt) (v : Value) (w : World) (hl : HasRts w v L) (hu : Up L) (hok : ∀ x ∈ L, okP x.pf = true) (hlen : L.length ≤ 256) :
    Calls Try.prog 48 #[v, .func (.func 49) #[] #[]] w fun e w' => ∃ g u0 u1 K0 K1, e = .returned (.pointer (some ⟨g, 0, none⟩)) ∧ TrieAt w.heap.size w' g u0 u1 257 K0 K1 ∧ (∀ six a, (if six then K1 else K0).filter (hasR six a) = L.filter (hasR six a)) ∧ (∀ six : Bool, (if six then K1 else K0).length ≤ 256) ∧ Below w.heap.size w w' := by
  have ck0 : ∀ W, Calls Try.prog 51 #[.bool false] W fun e w' => e = .returned (.int .i64 0) ∧ w' = W := fun W => kind_any false W
  have ck1 : ∀ W, Calls Try.prog 51 #[.bool true] W fun e w' => e = .returned (.int .i64 1) ∧ w' = W := fun W => kind_any true W
  obtain ⟨o, c, rfl, hc1, hc2⟩ := Lk.HasRow.slice hl
  have cu := fun W (hb : Below w.heap.size w W) => under_any 257 L _ (rootP false) W (by omega) (hl.keep hb) hu hok (fit_ok (root_ok false)) hlen
  have HC2 : Hid (∀ (j : Nat) (lv : Value) (W : World), j ≤ L.length → HasRts W lv (L.drop j) → Calls Try.prog 63 #[.agg #[.bool true, .int .u64 0, .int .u64 0, .int .i64 0], lv, .func (.func 49) #[] #[]] W fun e w' => ∃ (i : Nat) (u lv' : Value), e = .returned (.tuple #[u, lv']) ∧ i ≤ (L.drop j).length ∧ (∀ W' : World, HasRts W' lv (L.drop j) → HasRts W' lv' ((L.drop j).drop i)) ∧ (∀ x ∈ (L.drop j).take i, coversB (rootP true) x.pf = true) ∧ (∀ h : i < (L.drop j).length, coversB (rootP true) (L.drop j)[i].pf = false) ∧ HasTrie 257 w' (fun b => W.heap.size ≤ b ∧ b < w'.heap.size) true u ((L.drop j).take i) ∧ Below W.heap.size W w') := fun j lv W hj h => under_any 257 (L.drop j) lv (rootP true) W (by rw [List.length_drop]; omega) h (hu.sublist (List.drop_sublist _ _)) (fun x hx => hok x (List.mem_of_mem_drop hx)) (fit_ok (root_ok true)) (by rw [List.length_drop]; omega)
  have HV : Hid (∀ W, Below w.heap.size w W → HasRts W (.slice o L.length c) L) := fun W hb => hl.keep hb
  have HU : Hid (Up L ∧ ∀ x ∈ L, okP x.pf = true) := ⟨hu, hok⟩
  obtain ⟨X, hX⟩ : ∃ X, X = w.alloc (.cells #[.slice none 0 0, .slice none 0 0] 106) := ⟨_, rfl⟩
  have hB : Below w.heap.size w X := by rw [hX]; exact below_new (Below.refl _ _) _
  have r0 : RowAt X w.heap.size [.slice none 0 0, .slice none 0 0] 106 := by rw [hX]; exact RowAt.new _ _ _
  clear hl hu hok
  have hi0 := fun W => (index2 W).1
  have hi1 := fun W => (index2 W).2
  go_enter Try.func48, Try.ntmps48
  go_upto_region 2 with fail
  rw [← hX]
  clear hX
  go_wp2_with fail
  refine wp_loop_rounds 3 ?_
  rw [rounds_succ]
  go_wp2_with fail
  go_at_call 51; refine (ck0 _).mono ?_; rintro e w1 ⟨rfl, hw1⟩
  rw [hw1]
  clear hw1
  go_wp2_with fail
  go_at_call 63; refine (cu _ hB).mono ?_; rintro e w2 ⟨j, u0, lv, rfl, q1, q2, q3, q4, q5, hb2⟩
  obtain ⟨oo, nn, cc, rfl⟩ := trie_slice q5
  have r2 := r0.below hb2
  have hb02 := below2 hB hb2
  obtain ⟨y0, y1, yf⟩ := cells2 r2
  have hyl := r2.lt
  obtain ⟨W3, hW3⟩ : ∃ W3, W3 = w2.setCell ⟨w.heap.size, 0, none⟩ (.slice oo nn cc) := ⟨_, rfl⟩
  have r3 : RowAt W3 w.heap.size [.slice oo nn cc, .slice none 0 0] 106 := by rw [hW3]; exact r2.set1 0 _
  have hb3 : Below w.heap.size w W3 := by rw [hW3]; exact bset hb02 (Nat.le_refl _)
  have q6 : HasTrie 257 W3 (fun b => w.heap.size + 1 ≤ b ∧ b < W3.heap.size) false (.slice oo nn cc) (L.take j) := by
    have hXs : w.heap.size + 1 ≤ X.heap.size := r0.lt
    refine (HasTrie.keepQ 257 (W' := W3) q5 (fun b hb => ?_) (by rw [hW3]; simp)).mono _ (fun b hb => ⟨by have := hb.1; omega, by have := hb.2; rw [hW3]; simpa using this⟩)
    rw [hW3]
    exact heap_setCell_other w2 ⟨w.heap.size, 0, none⟩ b _ (fun e => by have := hb.1; simp at e; omega)
  have HW3 : Hid (W3 = w2.setCell ⟨w.heap.size, 0, none⟩ (.slice oo nn cc)) := hW3
  clear q5 hW3
  have hlv3 := q2 _ (HV.out _ hb3)
  obtain ⟨hk0, hk1⟩ := kinds_of HU.out.1 HU.out.2 q1 q3 q4
  have cu2 := fun W (hb : Below W3.heap.size W3 W) => HC2.out j lv W q1 (hlv3.keep hb)
  go_upto_region 6 with fail
  rw [← HW3.out]
  clear HW3 y0 y1 yf hyl r2 hb02 hb2 cu
  go_wp2_with fail
  rw [rounds_succ]
  go_wp2_with fail
  go_at_call 51; refine (ck1 _).mono ?_; rintro e w4 ⟨rfl, hw4⟩
  rw [hw4]
  clear hw4
  go_wp2_with fail
  go_at_call 63; refine (cu2 _ (Below.refl _ _)).mono ?_; rintro e w5 ⟨i, u1, lv2, rfl, p1, p2, p3, p4, p5, hb5⟩
  obtain ⟨o1, n1, c1, rfl⟩ := trie_slice p5
  have r5 := r3.below hb5
  have hb05 := below2 hb3 hb5
  obtain ⟨y0, y1, yf⟩ := cells2 r5
  have hyl := r5.lt
  have hall : (L.drop j).take i = L.drop j := by
    by_cases hi : i < (L.drop j).length
    · exfalso
      have h1 := p4 hi
      rw [root_covers true (HU.out.2 _ (List.mem_of_mem_drop (List.getElem_mem hi))), hk1 _ (List.getElem_mem hi)] at h1
      simp at h1
    · exact List.take_of_length_le (by omega)
  rw [hall] at p5
  obtain ⟨W6, hW6⟩ : ∃ W6, W6 = w5.setCell ⟨w.heap.size, 1, none⟩ (.slice o1 n1 c1) := ⟨_, rfl⟩
  have hT : TrieAt w.heap.size W6 w.heap.size (.slice oo nn cc) (.slice o1 n1 c1) 257 (L.take j) (L.drop j) := by
    have hs3 : w.heap.size < W3.heap.size := r3.lt
    refine ⟨by rw [hW6]; exact r5.set1 1 _, ?_, ?_, Nat.le_refl _⟩
    · have q7 := q6.below (fun b hb => hb.2) hb5
      refine (HasTrie.keepQ 257 (W' := W6) q7 (fun b hb => ?_) (by rw [hW6]; simp)).mono _ (fun b hb => ⟨by have := hb.1; omega, by have h1 := hb.2; have h2 := hb5.size; rw [hW6]; simp; omega⟩)
      rw [hW6]
      exact heap_setCell_other w5 ⟨w.heap.size, 1, none⟩ b _ (fun e => by have := hb.1; simp at e; omega)
    · refine (HasTrie.keepQ 257 (W' := W6) p5 (fun b hb => ?_) (by rw [hW6]; simp)).mono _ (fun b hb => ⟨by have := hb.1; omega, by have h1 := hb.2; rw [hW6]; simpa using h1⟩)
      rw [hW6]
      exact heap_setCell_other w5 ⟨w.heap.size, 1, none⟩ b _ (fun e => by have := hb.1; simp at e; omega)
  have hb6 : Below w.heap.size w W6 := by rw [hW6]; exact bset hb05 (Nat.le_refl _)
  have HFL : Hid (∀ six a, (if six then L.drop j else L.take j).filter (hasR six a) = L.filter (hasR six a)) := fun six a => by
    cases six with
    | false => exact filter_kind (.inl (List.take_append_drop j L).symm) (fun x hx => by rw [hk1 x hx]; simp) a
    | true => exact filter_kind (.inr (List.take_append_drop j L).symm) (fun x hx => by rw [hk0 x hx]; simp) a
  have HLN : Hid (∀ six : Bool, (if six then L.drop j else L.take j).length ≤ 256) := fun six => by cases six <;> simp <;> omega
  have HW6 : Hid (W6 = w5.setCell ⟨w.heap.size, 1, none⟩ (.slice o1 n1 c1)) := hW6
  clear hW6 p5 q6 cu2 p1 p2 p3 p4 q1 q2 q3 q4 hk0 hk1 hall hlv3
  go_upto_region 6 with fail
  rw [← HW6.out]
  clear HW6 y0 y1 yf hyl
  go_wp2_with fail
  rw [rounds_succ]
  go_wp2_with fail
  go_ret
  exact ⟨_, _, _, _, _, rfl, hT, HFL.out, HLN.out, hb6⟩
set_option maxHeartbeats 4000000 in
set_option maxRecDepth 20000 in
theorem grown_any (L : List Rt) (v : Value) (w : World) (hl : HasRts w v L) (hu : Up L) (hok : ∀ x ∈ L, okP x.pf = true) (hlen : L.length ≤ 256) :
    Calls Try.prog 30 #[v] w fun e w' => ∃ g u0 u1 K0 K1, e = .returned (.pointer (some ⟨g, 0, none⟩)) ∧ TrieAt w.heap.size w' g u0 u1 257 K0 K1 ∧ (∀ six a, (if six then K1 else K0).filter (hasR six a) = L.filter (hasR six a)) ∧ (∀ six : Bool, (if six then K1 else K0).length ≤ 256) ∧ Below w.heap.size w w' := by
  have cp := planted_any L v w hl hu hok hlen
  obtain ⟨o, c, rfl, hc1, hc2⟩ := Lk.HasRow.slice hl
  clear hl hu hok
  go_enter Try.func30, Try.ntmps30
  go_wp2_with fail
  go_at_call 48; refine cp.mono ?_; rintro e w1 ⟨g, u0, u1, K0, K1, rfl, h1, h2, h3, hb1⟩
  go_wp2_with fail
  go_ret
  exact ⟨_, _, _, _, _, rfl, h1, h2, h3, hb1⟩
end Go.Proofs.Yteoihmoclndihab.Tr
