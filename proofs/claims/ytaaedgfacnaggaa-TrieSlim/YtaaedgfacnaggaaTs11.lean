/- The way to an address: what the iterator tells. -/
import Derived.Test.YtaaedgfacnaggaaTs10
import Derived.Laws.Cover3
import Derived.Test.YtaaedgfacnaggaaTs09
import Derived.Test.YtaaedgfacnaggaaTs01
import Derived.RangeFuncNested
import Derived.RangeFuncBound
import Derived.RangeFuncCalls
import Derived.RangeFuncLeaves
import Derived.RangeFuncBox
import Derived.Shelf.Abstract
import Derived.Shelf.RegionOpen
import Derived.OwnWalkIn
import Derived.TacticsInMore
import Derived.LoopNIn
import Derived.LoopIn
set_option linter.unusedVariables false
namespace Go.Proofs.Ytaaedgfacnaggaa.Tr
open Go.RowKit
open Go.Proofs.Ytaaedgfacnaggaa.Lk (HasRow)
open Go.Proofs.Ytaaedgfacnaggaa.Addr (Pf okP wideN hasB coversB RowAt below2 below_new bset RowAt.lt RowAt.below RowAt.new RowAt.alloc RowAt.set1 cells2)
def rootP (six : Bool) : Pf := ⟨six, 0, 0⟩
theorem root_ok (six : Bool) : okP (rootP six) = true := by cases six <;> decide
theorem root_covers (six : Bool) {x : Pf} (hx : okP x = true) : coversB (rootP six) x = decide (x.six = six) := by
  have hp := ok_parts hx
  by_cases h : x.six = six
  · rw [decide_eq_true h]
    have hh : hasB (rootP six) x.six x.n = true := (has_iff (root_ok six) _ _).2 ⟨h.symm, hp.2.2.1, Nat.zero_le _, by
      show x.n < 0 + 2 ^ (wideN six - 0)
      rw [← h]
      simpa using hp.2.2.1⟩
    unfold coversB
    rw [hx, hh, decide_eq_true (show (rootP six).len ≤ x.len from hp.1)]
    rfl
  · rw [decide_eq_false h]
    cases hc : coversB (rootP six) x with
    | false => rfl
    | true => exact absurd (covers_six hc) h
/-- the routes of a kind's addresses -/
theorem kinds_of {L : List Rt} {j : Nat} (hu : Up L) (hok : ∀ x ∈ L, okP x.pf = true) (hj : j ≤ L.length) (h1 : ∀ x ∈ L.take j, coversB (rootP false) x.pf = true) (h2 : ∀ h : j < L.length, coversB (rootP false) L[j].pf = false) : (∀ x ∈ L.take j, x.pf.six = false) ∧ ∀ x ∈ L.drop j, x.pf.six = true := by
  refine ⟨fun x hx => covers_six (h1 x hx), fun x hx => ?_⟩
  obtain ⟨i, hi, rfl⟩ := List.getElem_of_mem hx
  rw [List.length_drop] at hi
  rw [List.getElem_drop]
  have hjl : j < L.length := by omega
  have h3 := h2 hjl
  rw [root_covers false (hok _ (List.getElem_mem hjl))] at h3
  have h4 : L[j].pf.six = true := by
    cases h : L[j].pf.six with
    | true => rfl
    | false => rw [h] at h3; simp at h3
  by_cases e : i = 0
  · subst e; exact h4
  · have h5 := List.pairwise_iff_getElem.1 hu j (j + i) hjl (by omega) (by omega)
    unfold ltP at h5
    rcases h5 with ⟨a, _⟩ | ⟨a, _⟩
    · rw [h4] at a; cases a
    · rw [← a]; exact h4
theorem filter_kind {L K R : List Rt} {six : Bool} (h : L = K ++ R ∨ L = R ++ K) (hR : ∀ x ∈ R, x.pf.six ≠ six) (a : Nat) : K.filter (hasR six a) = L.filter (hasR six a) := by
  have hz : R.filter (hasR six a) = [] := by
    rw [List.filter_eq_nil_iff]
    intro x hx hc
    have hh : hasB x.pf six a = true := hc
    exact hR x hx ((has_iff (has_ok hh) _ _).1 hh).1
  rcases h with rfl | rfl
  · rw [List.filter_append, hz, List.append_nil]
  · rw [List.filter_append, hz, List.nil_append]
theorem index2 (w : World) : (Instr.index 94 (.agg #[.bool false, .bool true]) (.int .i64 0)).run Try.prog w = .ok (.bool false) w ∧ (Instr.index 94 (.agg #[.bool false, .bool true]) (.int .i64 1)).run Try.prog w = .ok (.bool true) w := by
  have h : Try.prog.underlying 94 = some (.array 2 4) := Try.underlying94
  have hz : ∀ w, (Go.sizeOf 4).run Try.prog w = .ok 1 w := fun w => Try.sizeOf4 w
  refine ⟨?_, ?_⟩ <;> simp [Instr.index, run_underlying h, asIntOf, hz, go_sem]
/-- a trie in memory -/
structure TrieAt (B : Nat) (W : World) (g : Nat) (u0 u1 : Value) (N : Nat) (K0 K1 : List Rt) : Prop where
  row : RowAt W g [u0, u1] 85
  t0 : HasTrie N W (fun b => B ≤ b ∧ b < W.heap.size) false u0 K0
  t1 : HasTrie N W (fun b => B ≤ b ∧ b < W.heap.size) true u1 K1
  ge : B ≤ g
theorem TrieAt.below {B : Nat} {W W' : World} {g N : Nat} {u0 u1 : Value} {K0 K1 : List Rt} (h : TrieAt B W g u0 u1 N K0 K1) (hb : Below W.heap.size W W') : TrieAt B W' g u0 u1 N K0 K1 :=
  ⟨h.row.below hb, (h.t0.below (fun b hb => hb.2) hb).mono _ (fun b h => ⟨h.1, Nat.lt_of_lt_of_le h.2 hb.size⟩), (h.t1.below (fun b hb => hb.2) hb).mono _ (fun b h => ⟨h.1, Nat.lt_of_lt_of_le h.2 hb.size⟩), h.ge⟩
set_option maxHeartbeats 8000000 in
set_option maxRecDepth 20000 in
theorem planted_any (L : List Rt) (v : Value) (w : World) (hl : HasRts w v L) (hu : Up L) (hok : ∀ x ∈ L, okP x.pf = true) (hlen : L.length ≤ 256) :
    Calls Try.prog 23 #[v, .func (.func 24) #[] #[]] w fun e w' => ∃ g u0 u1 K0 K1, e = .returned (.pointer (some ⟨g, 0, none⟩)) ∧ TrieAt w.heap.size w' g u0 u1 257 K0 K1 ∧ (∀ six a, (if six then K1 else K0).filter (hasR six a) = L.filter (hasR six a)) ∧ (∀ six : Bool, (if six then K1 else K0).length ≤ 256) ∧ Below w.heap.size w w' := by
  have ck0 : ∀ W, Calls Try.prog 41 #[.bool false] W fun e w' => e = .returned (.int .i64 0) ∧ w' = W := fun W => kind_any false W
  have ck1 : ∀ W, Calls Try.prog 41 #[.bool true] W fun e w' => e = .returned (.int .i64 1) ∧ w' = W := fun W => kind_any true W
  obtain ⟨o, c, rfl, hc1, hc2⟩ := Lk.HasRow.slice hl
  have cu := fun W (hb : Below w.heap.size w W) => under_any 257 L _ (rootP false) W (by omega) (hl.keep hb) hu hok (fit_ok (root_ok false)) hlen
  have HC2 : Hid (∀ (j : Nat) (lv : Value) (W : World), j ≤ L.length → HasRts W lv (L.drop j) → Calls Try.prog 46 #[.agg #[.bool true, .int .u64 0, .int .u64 0, .int .i64 0], lv, .func (.func 24) #[] #[]] W fun e w' => ∃ (i : Nat) (u lv' : Value), e = .returned (.tuple #[u, lv']) ∧ i ≤ (L.drop j).length ∧ (∀ W' : World, HasRts W' lv (L.drop j) → HasRts W' lv' ((L.drop j).drop i)) ∧ (∀ x ∈ (L.drop j).take i, coversB (rootP true) x.pf = true) ∧ (∀ h : i < (L.drop j).length, coversB (rootP true) (L.drop j)[i].pf = false) ∧ HasTrie 257 w' (fun b => W.heap.size ≤ b ∧ b < w'.heap.size) true u ((L.drop j).take i) ∧ Below W.heap.size W w') := fun j lv W hj h => under_any 257 (L.drop j) lv (rootP true) W (by rw [List.length_drop]; omega) h (hu.sublist (List.drop_sublist _ _)) (fun x hx => hok x (List.mem_of_mem_drop hx)) (fit_ok (root_ok true)) (by rw [List.length_drop]; omega)
  have HV : Hid (∀ W, Below w.heap.size w W → HasRts W (.slice o L.length c) L) := fun W hb => hl.keep hb
  have HU : Hid (Up L ∧ ∀ x ∈ L, okP x.pf = true) := ⟨hu, hok⟩
  obtain ⟨X, hX⟩ : ∃ X, X = w.alloc (.cells #[.slice none 0 0, .slice none 0 0] 85) := ⟨_, rfl⟩
  have hB : Below w.heap.size w X := by rw [hX]; exact below_new (Below.refl _ _) _
  have r0 : RowAt X w.heap.size [.slice none 0 0, .slice none 0 0] 85 := by rw [hX]; exact RowAt.new _ _ _
  clear hl hu hok
  have hi0 := fun W => (index2 W).1
  have hi1 := fun W => (index2 W).2
  go_enter Try.func23, Try.ntmps23
  go_upto_region 2 with fail
  rw [← hX]
  clear hX
  go_wp2_with fail
  refine wp_loop_rounds 3 ?_
  rw [rounds_succ]
  go_wp2_with fail
  go_at_call 41; refine (ck0 _).mono ?_; rintro e w1 ⟨rfl, hw1⟩
  rw [hw1]
  clear hw1
  go_wp2_with fail
  go_at_call 46; refine (cu _ hB).mono ?_; rintro e w2 ⟨j, u0, lv, rfl, q1, q2, q3, q4, q5, hb2⟩
  obtain ⟨oo, nn, cc, rfl⟩ := trie_slice q5
  have r2 := r0.below hb2
  have hb02 := below2 hB hb2
  obtain ⟨y0, y1, yf⟩ := cells2 r2
  have hyl := r2.lt
  obtain ⟨W3, hW3⟩ : ∃ W3, W3 = w2.setCell ⟨w.heap.size, 0, none⟩ (.slice oo nn cc) := ⟨_, rfl⟩
  have r3 : RowAt W3 w.heap.size [.slice oo nn cc, .slice none 0 0] 85 := by rw [hW3]; exact r2.set1 0 _
  have hb3 : Below w.heap.size w W3 := by rw [hW3]; exact bset hb02 (Nat.le_refl _)
  have q6 : HasTrie 257 W3 (fun b => w.heap.size + 1 ≤ b ∧ b < W3.heap.size) false (.slice oo nn cc) (L.take j) := by
    have hXs : w.heap.size + 1 ≤ X.heap.size := r0.lt
    refine (HasTrie.keepQ 257 (W' := W3) q5 (fun b hb => ?_) (by rw [hW3]; simp)).mono _ (fun b hb => ⟨by have := hb.1; omega, by have := hb.2; rw [hW3]; simpa using this⟩)
    rw [hW3]
    exact heap_setCell_other w2 ⟨w.heap.size, 0, none⟩ b _ (fun e => by have := hb.1; simp at e; omega)
  have HW3 : Hid (W3 = w2.setCell ⟨w.heap.size, 0, none⟩ (.slice oo nn cc)) := hW3
  clear q5 hW3
  have hlv3 := q2 _ (HV.out _ hb3)
  obtain ⟨hk0, hk1⟩ := kinds_of HU.out.1 HU.out.2 q1 q3 q4
  have cu2 := fun W (hb : Below W3.heap.size W3 W) => HC2.out j lv W q1 (hlv3.keep hb)
  go_upto_region 6 with fail
  rw [← HW3.out]
  clear HW3 y0 y1 yf hyl r2 hb02 hb2 cu
  go_wp2_with fail
  rw [rounds_succ]
  go_wp2_with fail
  go_at_call 41; refine (ck1 _).mono ?_; rintro e w4 ⟨rfl, hw4⟩
  rw [hw4]
  clear hw4
  go_wp2_with fail
  go_at_call 46; refine (cu2 _ (Below.refl _ _)).mono ?_; rintro e w5 ⟨i, u1, lv2, rfl, p1, p2, p3, p4, p5, hb5⟩
  obtain ⟨o1, n1, c1, rfl⟩ := trie_slice p5
  have r5 := r3.below hb5
  have hb05 := below2 hb3 hb5
  obtain ⟨y0, y1, yf⟩ := cells2 r5
  have hyl := r5.lt
  have hall : (L.drop j).take i = L.drop j := by
    by_cases hi : i < (L.drop j).length
    · exfalso
      have h1 := p4 hi
      rw [root_covers true (HU.out.2 _ (List.mem_of_mem_drop (List.getElem_mem hi))), hk1 _ (List.getElem_mem hi)] at h1
      simp at h1
    · exact List.take_of_length_le (by omega)
  rw [hall] at p5
  obtain ⟨W6, hW6⟩ : ∃ W6, W6 = w5.setCell ⟨w.heap.size, 1, none⟩ (.slice o1 n1 c1) := ⟨_, rfl⟩
  have hT : TrieAt w.heap.size W6 w.heap.size (.slice oo nn cc) (.slice o1 n1 c1) 257 (L.take j) (L.drop j) := by
    have hs3 : w.heap.size < W3.heap.size := r3.lt
    refine ⟨by rw [hW6]; exact r5.set1 1 _, ?_, ?_, Nat.le_refl _⟩
    · have q7 := q6.below (fun b hb => hb.2) hb5
      refine (HasTrie.keepQ 257 (W' := W6) q7 (fun b hb => ?_) (by rw [hW6]; simp)).mono _ (fun b hb => ⟨by have := hb.1; omega, by have h1 := hb.2; have h2 := hb5.size; rw [hW6]; simp; omega⟩)
      rw [hW6]
      exact heap_setCell_other w5 ⟨w.heap.size, 1, none⟩ b _ (fun e => by have := hb.1; simp at e; omega)
    · refine (HasTrie.keepQ 257 (W' := W6) p5 (fun b hb => ?_) (by rw [hW6]; simp)).mono _ (fun b hb => ⟨by have := hb.1; omega, by have h1 := hb.2; rw [hW6]; simpa using h1⟩)
      rw [hW6]
      exact heap_setCell_other w5 ⟨w.heap.size, 1, none⟩ b _ (fun e => by have := hb.1; simp at e; omega)
  have hb6 : Below w.heap.size w W6 := by rw [hW6]; exact bset hb05 (Nat.le_refl _)
  have HFL : Hid (∀ six a, (if six then L.drop j else L.take j).filter (hasR six a) = L.filter (hasR six a)) := fun six a => by
    cases six with
    | false => exact filter_kind (.inl (List.take_append_drop j L).symm) (fun x hx => by rw [hk1 x hx]; simp) a
    | true => exact filter_kind (.inr (List.take_append_drop j L).symm) (fun x hx => by rw [hk0 x hx]; simp) a
  have HLN : Hid (∀ six : Bool, (if six then L.drop j else L.take j).length ≤ 256) := fun six => by cases six <;> simp <;> omega
  have HW6 : Hid (W6 = w5.setCell ⟨w.heap.size, 1, none⟩ (.slice o1 n1 c1)) := hW6
  clear hW6 p5 q6 cu2 p1 p2 p3 p4 q1 q2 q3 q4 hk0 hk1 hall hlv3
  go_upto_region 6 with fail
  rw [← HW6.out]
  clear HW6 y0 y1 yf hyl
  go_wp2_with fail
  rw [rounds_succ]
  go_wp2_with fail
  go_ret
  exact ⟨_, _, _, _, _, rfl, hT, HFL.out, HLN.out, hb6⟩
set_option maxHeartbeats 4000000 in
set_option maxRecDepth 20000 in
theorem grown_any (L : List Rt) (v : Value) (w : World) (hl : HasRts w v L) (hu : Up L) (hok : ∀ x ∈ L, okP x.pf = true) (hlen : L.length ≤ 256) :
    Calls Try.prog 10 #[v] w fun e w' => ∃ g u0 u1 K0 K1, e = .returned (.pointer (some ⟨g, 0, none⟩)) ∧ TrieAt w.heap.size w' g u0 u1 257 K0 K1 ∧ (∀ six a, (if six then K1 else K0).filter (hasR six a) = L.filter (hasR six a)) ∧ (∀ six : Bool, (if six then K1 else K0).length ≤ 256) ∧ Below w.heap.size w w' := by
  have cp := planted_any L v w hl hu hok hlen
  obtain ⟨o, c, rfl, hc1, hc2⟩ := Lk.HasRow.slice hl
  clear hl hu hok
  go_enter Try.func10, Try.ntmps10
  go_wp2_with fail
  go_at_call 23; refine cp.mono ?_; rintro e w1 ⟨g, u0, u1, K0, K1, rfl, h1, h2, h3, hb1⟩
  go_wp2_with fail
  go_ret
  exact ⟨_, _, _, _, _, rfl, h1, h2, h3, hb1⟩
end Go.Proofs.Ytaaedgfacnaggaa.Tr
namespace Go.Proofs.Ytaaedgfacnaggaa.Tr
open Go.RowKit
open Go.Proofs.Ytaaedgfacnaggaa.Lk (HasRow)
open Go.Proofs.Ytaaedgfacnaggaa.Addr (cmpN hiN loN adV cmp_any RowAt below2 RowAt.cell RowAt.below Bl bl_ne wp_region_bl bl_call)
theorem cmpN_gt (n m : Nat) : (0 < cmpN n m) ↔ m < n := by
  unfold cmpN
  split
  · constructor <;> intro h <;> omega
  · split
    · constructor <;> intro h <;> omega
    · constructor <;> intro h <;> omega
/-- a row of nodes in memory, and an address in a box -/
structure OvW (W : World) (s : List Seg) (us : List Value) (o : Option Addr) (c : Nat) (a bR bA : Nat) : Prop where
  row : HasRow W (.slice o s.length c) 11 s.length (nodeCs s us)
  len : us.length = s.length
  r : RowAt W bR [.slice o s.length c] 79
  ad : RowAt W bA [.int .u64 (hiN a : Int), .int .u64 (loN a : Int)] 25
theorem OvW.below {W W' : World} {s : List Seg} {us : List Value} {o : Option Addr} {c a bR bA : Nat} (h : OvW W s us o c a bR bA) (hb : Below W.heap.size W W') : OvW W' s us o c a bR bA := ⟨h.row.keep hb, h.len, h.r.below hb, h.ad.below hb⟩
theorem node_at {W : World} {s : List Seg} {us : List Value} {o : Option Addr} {c : Nat} (h : HasRow W (.slice o s.length c) 11 s.length (nodeCs s us)) (hl : us.length = s.length) (k : Nat) (hk : k < s.length) (hk2 : k < us.length) : ∃ b i, o = some ⟨b, i, none⟩ ∧ b < W.heap.size ∧ ∀ t, t < 11 → W.cell? ⟨b, i + k * 11 + t, none⟩ = (nodeC s[k].1 us[k])[t]? := by
  obtain ⟨_, b, i, e, hb, hc⟩ := Lk.HasRow.at h (by omega)
  exact ⟨b, i, e, hb, fun t ht => by rw [Nat.add_assoc, hc (k * 11 + t) (by omega), Nat.mul_comm k 11]; exact nodeCs_at s us hl k hk hk2 t ht⟩
set_option maxHeartbeats 8000000 in
set_option maxRecDepth 20000 in
theorem over1_any {s : List Seg} {us : List Value} {o : Option Addr} {c a bR bA : Nat} (k : Nat) (hk : k < s.length) (w : World) (h : OvW w s us o c a bR bA) (hn : s[k].1.pf.n < 2 ^ 128) (ha : a < 2 ^ 128) (hs : s.length ≤ 256) :
    Calls Try.prog 62 #[.int .i64 (k : Int), .pointer (some ⟨bR, 0, none⟩), .pointer (some ⟨bA, 0, none⟩)] w fun e w' => e = .returned (.bool (decide (a < s[k].1.pf.n))) ∧ Below w.heap.size w w' := by
  have cc := fun W => cmp_any s[k].1.pf.n a W hn ha
  have HD : Hid (decide (0 < cmpN s[k].1.pf.n a) = decide (a < s[k].1.pf.n)) := by
    show _ = _
    rw [Bool.eq_iff_iff, decide_eq_true_eq, decide_eq_true_eq]
    exact cmpN_gt _ _
  obtain ⟨b, i, rfl, hb, ax⟩ := node_at h.row h.len k hk (by rw [h.len]; exact hk)
  have b1 := ax 1 (by decide)
  have b2 := ax 2 (by decide)
  simp only [nodeC, pfC, List.cons_append, List.nil_append, List.getElem?_cons_zero, List.getElem?_cons_succ] at b1 b2
  unfold adV at cc
  have u1 : ∀ p : Bl w, p.W.cell? ⟨b, i + k * 11 + 1, none⟩ = some (.int .u64 (hiN s[k].1.pf.n : Int)) := fun p => (p.h.cell (p := ⟨b, i + k * 11 + 1, none⟩) hb).trans b1
  have u2 : ∀ p : Bl w, p.W.cell? ⟨b, i + k * 11 + 2, none⟩ = some (.int .u64 (loN s[k].1.pf.n : Int)) := fun p => (p.h.cell (p := ⟨b, i + k * 11 + 2, none⟩) hb).trans b2
  have m0 : ∀ p : Bl w, p.W.cell? ⟨bA, 0, none⟩ = some (.int .u64 (hiN a : Int)) := fun p => (h.ad.below p.h).cell 0
  have m1 : ∀ p : Bl w, p.W.cell? ⟨bA, 1, none⟩ = some (.int .u64 (loN a : Int)) := fun p => (h.ad.below p.h).cell 1
  have n0 : ∀ p : Bl w, p.W.cell? ⟨bR, 0, none⟩ = some (.slice (some ⟨b, i, none⟩) s.length c) := fun p => (h.r.below p.h).cell 0
  have hki : (k : Int) < (s.length : Int) := by omega
  rw [← HD.out]
  clear HD
  generalize cmpN s[k].1.pf.n a = R at *
  generalize (hiN s[k].1.pf.n : Int) = x1 at *
  generalize (loN s[k].1.pf.n : Int) = x2 at *
  generalize (hiN a : Int) = z1 at *
  generalize (loN a : Int) = z2 at *
  have hsi : (s.length : Int) ≤ 256 := by omega
  clear b1 b2 ax h hn
  generalize s.length = n at *
  haveI := bl_ne w
  go_enter Try.func62, Try.ntmps62
  go_wp2_with fail
  refine wp_region_bl (by kernel_rfl) (by kernel_rfl) ?_
  repeat (go_big_quiet_step (first | (go_at_call 36; with_reducible exact bl_call (cc _))))
  refine wpQuiet_nil ?_
  intro wq hw'
  obtain ⟨⟨wz, hq⟩, hw2⟩ := hw'
  subst hw2
  clear u1 u2 m0 m1 n0 cc
  go_wp2_with fail
  go_ret
  exact ⟨rfl, hq⟩
set_option maxHeartbeats 8000000 in
set_option maxRecDepth 20000 in
theorem searchs_any {s : List Seg} {us : List Value} {o : Option Addr} {c a bR bA : Nat} {six : Bool} (w : World) (h : OvW w s us o c a bR bA) (hg : Good s six) (ha : a < 2 ^ 128) (hs : s.length ≤ 256) :
    Calls Try.prog 61 #[.int .i64 (s.length : Int), .func (.func 62) #[] #[.pointer (some ⟨bR, 0, none⟩), .pointer (some ⟨bA, 0, none⟩)]] w fun e w' => ∃ k, Cut s a k ∧ e = .returned (.int .i64 (k : Int)) ∧ Below w.heap.size w w' := by
  have HC : Hid (∀ k (hk : k < s.length) (W : World), Below w.heap.size w W → Calls Try.prog 62 #[.int .i64 (k : Int), .pointer (some ⟨bR, 0, none⟩), .pointer (some ⟨bA, 0, none⟩)] W fun e w' => e = .returned (.bool (decide (a < s[k].1.pf.n))) ∧ Below W.heap.size W w') := fun k hk W hb => over1_any k hk W (h.below hb) (fit_ok (hg.ok _ (List.getElem_mem hk))).2 ha hs
  have HUp : Hid (∀ i j (hi : i < s.length) (hj : j < s.length), i ≤ j → s[i].1.pf.n ≤ s[j].1.pf.n) := fun i j hi hj hij => by
    by_cases e : i = j
    · subst e; exact Nat.le_refl _
    · have := List.pairwise_iff_getElem.1 hg.up i j hi hj (by omega)
      exact Nat.le_trans (Nat.le_add_right _ _) this
  obtain ⟨n, hn⟩ : ∃ n, n = s.length := ⟨_, rfl⟩
  have HN : Hid (n = s.length) := hn
  rw [← hn] at hs ⊢
  have hni : (n : Int) ≤ 256 := by omega
  clear h hg hn
  go_enter Try.func61, Try.ntmps61
  go_wp2_with fail
  go_loopw [5, 6] (fun u q wr => ∃ i j : Nat, i ≤ j ∧ j ≤ n ∧ u = .int .i64 i ∧ q = .int .i64 j ∧ Below w.heap.size w wr ∧ Hid ((∀ t (h : t < s.length), t < i → s[t].1.pf.n ≤ a) ∧ ∀ t (h : t < s.length), j ≤ t → a < s[t].1.pf.n)) (fun u q _ => (Go.RowKit.intOf q).toNat - (Go.RowKit.intOf u).toNat)
  case atStart => exact ⟨0, n, by omega, Nat.le_refl _, rfl, rfl, Below.refl _ _, (⟨fun t h h2 => by omega, fun t h h2 => by have := HN.out; omega⟩ : (∀ t (h : t < s.length), t < 0 → s[t].1.pf.n ≤ a) ∧ ∀ t (h : t < s.length), n ≤ t → a < s[t].1.pf.n)⟩
  case round =>
    obtain ⟨i, j, hij, hjn, rfl, rfl, hbr, HI⟩ := hrel
    have hin : (i : Int) ≤ 256 := by omega
    have hjn2 : (j : Int) ≤ 256 := by omega
    by_cases hlt : i < j
    · have hlti : (i : Int) < (j : Int) := by omega
      have hhl : (i + j) / 2 < s.length := by have := HN.out; omega
      have co := HC.out ((i + j) / 2) hhl
      have HLB : Hid (¬ (a < s[(i + j) / 2].1.pf.n) → ∀ t (h : t < s.length), t < (i + j) / 2 + 1 → s[t].1.pf.n ≤ a) := fun hq t h ht => by have := HUp.out t ((i + j) / 2) h hhl (by omega); omega
      have HLA : Hid (a < s[(i + j) / 2].1.pf.n → ∀ t (h : t < s.length), (i + j) / 2 ≤ t → a < s[t].1.pf.n) := fun hq t h ht => by have := HUp.out ((i + j) / 2) t hhl h ht; omega
      go_upto_region 4 with fail
      rw [show ((i : Int) + (j : Int)) / 2 = (((i + j) / 2 : Nat) : Int) by omega]
      have hm1 : i ≤ (i + j) / 2 := by omega
      have hm2 : (i + j) / 2 < j := by omega
      generalize (i + j) / 2 = m at *
      go_wp2_with fail
      go_at_call 62; refine (co _ hbr).mono ?_; rintro e w1 ⟨rfl, hb1⟩
      have hW := below2 hbr hb1
      clear hbr hb1 co
      by_cases hd : a < s[m].1.pf.n
      · have HF : Hid ((∀ t (h : t < s.length), t < i → s[t].1.pf.n ≤ a) ∧ ∀ t (h : t < s.length), m ≤ t → a < s[t].1.pf.n) := ⟨HI.out.1, HLA.out hd⟩
        rw [decide_eq_true hd]
        clear HLA HLB HI hd
        go_wp2_with fail
        go_roundw
        case rel => exact ⟨i, m, hm1, by omega, rfl, rfl, hW, HF⟩
        case measure => simp [Go.RowKit.intOf]; omega
      · have HF : Hid ((∀ t (h : t < s.length), t < m + 1 → s[t].1.pf.n ≤ a) ∧ ∀ t (h : t < s.length), j ≤ t → a < s[t].1.pf.n) := ⟨HLB.out hd, HI.out.2⟩
        rw [decide_eq_false hd]
        clear HLA HLB HI hd
        go_wp2_with fail
        go_roundw
        case rel => exact ⟨m + 1, j, by omega, hjn, by go_num, rfl, hW, HF⟩
        case measure => simp [Go.RowKit.intOf]; omega
    · obtain rfl : i = j := by omega
      have hd : decide ((i : Int) < (i : Int)) = false := decide_eq_false (by omega)
      have HP : Hid (Cut s a i) := ⟨by have := HN.out; omega, HI.out.1, HI.out.2⟩
      clear HI
      go_wp2_with fail
      go_ret
      exact ⟨i, HP.out, rfl, hbr⟩
def nodeV (r : Rt) (u : Value) : Value := .agg #[.bool r.pf.six, .int .u64 (hiN r.pf.n : Int), .int .u64 (loN r.pf.n : Int), .int .i64 r.pf.len, .bool r.pf.six, .int .u64 (hiN r.pf.n : Int), .int .u64 (loN r.pf.n : Int), .int .i64 r.pf.len, .int .u8 (r.act.k : Int), .int .i64 r.act.i, u]
def zeroN : Value := .agg #[.bool false, .int .u64 0, .int .u64 0, .int .i64 0, .bool false, .int .u64 0, .int .u64 0, .int .i64 0, .int .u8 0, .int .i64 0, .slice none 0 0]
theorem eleven_at {X : World} {g i : Nat} {r : Rt} {u : Value} (h : ∀ t, t < 11 → X.cell? ⟨g, i + t, none⟩ = (nodeC r u)[t]?) : X.cell? ⟨g, i, none⟩ = some (.bool r.pf.six) ∧ X.cell? ⟨g, i + 1, none⟩ = some (.int .u64 (hiN r.pf.n : Int)) ∧ X.cell? ⟨g, i + 2, none⟩ = some (.int .u64 (loN r.pf.n : Int)) ∧ X.cell? ⟨g, i + 3, none⟩ = some (.int .i64 r.pf.len) ∧ X.cell? ⟨g, i + 4, none⟩ = some (.bool r.pf.six) ∧ X.cell? ⟨g, i + 5, none⟩ = some (.int .u64 (hiN r.pf.n : Int)) ∧ X.cell? ⟨g, i + 6, none⟩ = some (.int .u64 (loN r.pf.n : Int)) ∧ X.cell? ⟨g, i + 7, none⟩ = some (.int .i64 r.pf.len) ∧ X.cell? ⟨g, i + 8, none⟩ = some (.int .u8 (r.act.k : Int)) ∧ X.cell? ⟨g, i + 9, none⟩ = some (.int .i64 r.act.i) ∧ X.cell? ⟨g, i + 10, none⟩ = some u :=
  ⟨h 0 (by decide), h 1 (by decide), h 2 (by decide), h 3 (by decide), h 4 (by decide), h 5 (by decide), h 6 (by decide), h 7 (by decide), h 8 (by decide), h 9 (by decide), h 10 (by decide)⟩
end Go.Proofs.Ytaaedgfacnaggaa.Tr
namespace Go.Proofs.Ytaaedgfacnaggaa.Tr
open Go.RowKit
open Go.Proofs.Ytaaedgfacnaggaa.Lk (HasRow)
open Go.Proofs.Ytaaedgfacnaggaa.Addr (hasB hiN loN has_any RowAt below2 below_new bset RowAt.lt RowAt.cell RowAt.frozen RowAt.below RowAt.new RowAt.alloc Bl bl_ne wp_region_bl bl_call)
theorem results_cell_tmp1 {fn : Func} {p u : Tmp} {ty : TypeId} (h : fn.results = #[.cell p ty, .tmp u]) (tmps : Array Value) (P : Program) (w : World) :
    (results fn tmps).run P w = ((asAddr (tmps.getD p undef)).run P w).andThen fun a w₁ => ((loadVar ty a).run P w₁).andThen fun v w₂ => .ok (.tuple #[v, tmps.getD u undef]) w₂ := by
  simp only [results, h]
  simp [Sem.run_bind, Result.andThen]
/-- what over answers of a row -/
def OvR (s : List Seg) (us : List Value) (six : Bool) (a : Nat) (e : Ending) : Prop := ∃ k, Cut s a k ∧ (((k = 0 ∨ ∀ h : k - 1 < s.length, hasB s[k - 1].1.pf six a = false) ∧ e = .returned (.tuple #[zeroN, .bool false])) ∨ ∃ (h : k - 1 < s.length) (h2 : k - 1 < us.length), 0 < k ∧ hasB s[k - 1].1.pf six a = true ∧ e = .returned (.tuple #[nodeV s[k - 1].1 us[k - 1], .bool true]))
set_option maxHeartbeats 8000000 in
set_option maxRecDepth 20000 in
theorem over_any {s : List Seg} {us : List Value} {v : Value} {a : Nat} {six0 : Bool} (six : Bool) (w : World) (hr : HasRow w v 11 s.length (nodeCs s us)) (hl : us.length = s.length) (hus : ∀ i (h : i < us.length), ∃ o n c, us[i] = .slice o n c) (hg : Good s six0) (ha : a < 2 ^ 128) (hs : s.length ≤ 256) :
    Calls Try.prog 42 #[v, .bool six, .agg #[.int .u64 (hiN a : Int), .int .u64 (loN a : Int)]] w fun e w' => OvR s us six a e ∧ Below w.heap.size w w' := by
  obtain ⟨o, c, rfl, hc1, hc2⟩ := Lk.HasRow.slice hr
  obtain ⟨X, hX⟩ : ∃ X, X = ((w.alloc (.cells #[.slice o s.length c] 79)).alloc (.cells #[.int .u64 (hiN a : Int), .int .u64 (loN a : Int)] 25)).alloc (.cells #[.bool false, .int .u64 0, .int .u64 0, .int .i64 0, .bool false, .int .u64 0, .int .u64 0, .int .i64 0, .int .u8 0, .int .i64 0, .slice none 0 0] 81) := ⟨_, rfl⟩
  have hB : Below w.heap.size w X := by rw [hX]; exact below_new (below_new (below_new (Below.refl _ _) _) _) _
  have e1 : (w.alloc (.cells #[.slice o s.length c] 79)).heap.size = w.heap.size + 1 := World.size_alloc _ _
  have e2 : ((w.alloc (.cells #[.slice o s.length c] 79)).alloc (.cells #[.int .u64 (hiN a : Int), .int .u64 (loN a : Int)] 25)).heap.size = w.heap.size + 1 + 1 := by rw [World.size_alloc, e1]
  have r0 : RowAt X w.heap.size [.slice o s.length c] 79 := by rw [hX]; exact ((RowAt.new _ _ _).alloc _).alloc _
  have r1 : RowAt X (w.heap.size + 1) [.int .u64 (hiN a : Int), .int .u64 (loN a : Int)] 25 := by rw [hX, ← e1]; exact (RowAt.new _ _ _).alloc _
  have r2 : RowAt X (w.heap.size + 1 + 1) [.bool false, .int .u64 0, .int .u64 0, .int .i64 0, .bool false, .int .u64 0, .int .u64 0, .int .i64 0, .int .u8 0, .int .i64 0, .slice none 0 0] 81 := by rw [hX, ← e2]; exact RowAt.new _ _ _
  have hO : OvW X s us o c a w.heap.size (w.heap.size + 1) := ⟨hr.keep hB, hl, r0, r1⟩
  have cs := searchs_any X hO hg ha hs
  have HH : Hid (∀ k (hk : k < s.length) (W : World), Calls Try.prog 63 #[.agg #[.bool s[k].1.pf.six, .int .u64 (hiN s[k].1.pf.n : Int), .int .u64 (loN s[k].1.pf.n : Int), .int .i64 s[k].1.pf.len], .bool six, .agg #[.int .u64 (hiN a : Int), .int .u64 (loN a : Int)]] W fun e w' => e = .returned (.bool (hasB s[k].1.pf six a)) ∧ Below W.heap.size W w') := fun k hk W => by
    have hf := fit_ok (hg.ok _ (List.getElem_mem hk))
    exact has_any s[k].1.pf six a W hf.1 hf.2 ha
  have q0 := r0.cell 0
  simp only [List.getElem?_cons_zero] at q0
  obtain ⟨n, hn⟩ : ∃ n, n = s.length := ⟨_, rfl⟩
  have HN : Hid (n = s.length) := hn
  have HOV : Hid (∀ W, Below X.heap.size X W → OvW W s us o c a w.heap.size (w.heap.size + 1)) := fun W hb => hO.below hb
  have HR2 : Hid (∀ W, Below X.heap.size X W → RowAt W (w.heap.size + 1 + 1) [.bool false, .int .u64 0, .int .u64 0, .int .i64 0, .bool false, .int .u64 0, .int .u64 0, .int .i64 0, .int .u8 0, .int .i64 0, .slice none 0 0] 81) := fun W hb => r2.below hb
  have HAD : Hid (∀ W, Below X.heap.size X W → RowAt W (w.heap.size + 1) [.int .u64 (hiN a : Int), .int .u64 (loN a : Int)] 25) := fun W hb => r1.below hb
  rw [← hn] at cs hs hc1 q0 hX ⊢
  have hni : (n : Int) ≤ 256 := by omega
  generalize (hiN a : Int) = z1 at *
  generalize (loN a : Int) = z2 at *
  clear e1 e2 r0 r1 r2 hr hg hn hO
  go_enter Try.func42, Try.ntmps42
  go_upto_region 1 with fail
  rw [← hX]
  clear hX
  go_wp2_with fail
  go_at_call 61; refine cs.mono ?_; rintro e w1 ⟨k, hk, rfl, hb1⟩
  have HK : Hid (Cut s a k) := hk
  have hkn : k ≤ n := by rw [HN.out]; exact hk.1
  clear cs q0 hk
  have hO1 := HOV.out _ hb1
  have hbx := below2 hB hb1
  have n0 : ∀ p : Bl w1, p.W.cell? ⟨w.heap.size, 0, none⟩ = some (.slice o n c) := fun p => by have h := (hO1.r.below p.h).cell 0; rw [← HN.out] at h; exact h
  have m0 : ∀ p : Bl w1, p.W.cell? ⟨w.heap.size + 1, 0, none⟩ = some (.int .u64 z1) := fun p => ((HAD.out _ hb1).below p.h).cell 0
  have m1 : ∀ p : Bl w1, p.W.cell? ⟨w.heap.size + 1, 1, none⟩ = some (.int .u64 z2) := fun p => ((HAD.out _ hb1).below p.h).cell 1
  haveI := bl_ne w1
  have hki : (k : Int) ≤ 256 := by omega
  by_cases hk0 : k = 0
  · subst hk0
    go_wp2_with fail
    refine wp_region_bl (by kernel_rfl) (by kernel_rfl) ?_
    repeat (go_big_quiet_step (fail))
    refine wpQuiet_nil ?_
    intro wq hw'
    obtain ⟨⟨wz, hq⟩, hw2⟩ := hw'
    subst hw2
    have hz := HR2.out _ (below2 hb1 hq)
    have hW := below2 hbx hq
    clear n0 m0 m1 hq hb1 hO1
    obtain ⟨f0, f1, f2, f3, f4, f5, f6, f7, f8, f9, f10⟩ : _ ∧ _ ∧ _ ∧ _ ∧ _ ∧ _ ∧ _ ∧ _ ∧ _ ∧ _ ∧ _ := ⟨hz.cell 0, hz.cell 1, hz.cell 2, hz.cell 3, hz.cell 4, hz.cell 5, hz.cell 6, hz.cell 7, hz.cell 8, hz.cell 9, hz.cell 10⟩
    simp only [List.getElem?_cons_zero, List.getElem?_cons_succ] at f0 f1 f2 f3 f4 f5 f6 f7 f8 f9 f10
    have ff := hz.frozen
    have hzl := hz.lt
    go_wp2_with fail
    (try simp only [Exit.inBlock, Exit.then])
    refine bodyPost_ret (v := .tuple #[.agg #[.bool false, .int .u64 0, .int .u64 0, .int .i64 0, .bool false, .int .u64 0, .int .u64 0, .int .i64 0, .int .u8 0, .int .i64 0, .slice none 0 0], .bool false]) ?_ rfl ⟨⟨0, HK.out, .inl ⟨.inl rfl, rfl⟩⟩, (bset (bset (bset (bset (bset (bset (bset (bset (bset (bset (bset hW (by omega)) (by omega)) (by omega)) (by omega)) (by omega)) (by omega)) (by omega)) (by omega)) (by omega)) (by omega)) (by omega))⟩
    rw [results_cell_tmp1 rfl]
    go_simp
  · obtain ⟨i, rfl⟩ : ∃ i, k = i + 1 := ⟨k - 1, by omega⟩
    have hil : i < s.length := by have := HN.out; omega
    have hil2 : i < us.length := by rw [hl]; exact hil
    obtain ⟨b, i1, rfl, hbl, ax⟩ := node_at hO1.row hO1.len i hil hil2
    obtain ⟨b0, b1, b2, b3, b4, b5, b6, b7, b8, b9, b10⟩ := eleven_at ax
    have ch := HH.out i hil
    have HFA : Hid (hasB s[i].1.pf six a = false → OvR s us six a (.returned (.tuple #[zeroN, .bool false]))) := fun h => ⟨i + 1, HK.out, .inl ⟨.inr (fun _ => by simpa using h), rfl⟩⟩
    have HTR : Hid (hasB s[i].1.pf six a = true → OvR s us six a (.returned (.tuple #[nodeV s[i].1 us[i], .bool true]))) := fun h => ⟨i + 1, HK.out, .inr ⟨by simpa using hil, by simpa using hil2, by omega, by simpa using h, by simp⟩⟩
    unfold nodeV at HTR
    have hsl := hus i hil2
    generalize hasB s[i].1.pf six a = HB at *
    generalize us[i] = uu at *
    obtain ⟨oo, nn, cc, rfl⟩ := hsl
    generalize s[i].1.pf.six = s0 at *
    generalize (hiN s[i].1.pf.n : Int) = s1 at *
    generalize (loN s[i].1.pf.n : Int) = s2 at *
    generalize s[i].1.pf.len = s3 at *
    generalize (s[i].1.act.k : Int) = s4 at *
    generalize s[i].1.act.i = s5 at *
    have hii : (i : Int) < (n : Int) := by omega
    have hiz : (0 : Int) ≤ (i : Int) := by omega
    have u0 : ∀ p : Bl w1, p.W.cell? ⟨b, i1 + i * 11, none⟩ = some (.bool s0) := fun p => (p.h.cell (p := ⟨b, i1 + i * 11, none⟩) hbl).trans b0
    have u1 : ∀ p : Bl w1, p.W.cell? ⟨b, i1 + i * 11 + 1, none⟩ = some (.int .u64 s1) := fun p => (p.h.cell (p := ⟨b, i1 + i * 11 + 1, none⟩) hbl).trans b1
    have u2 : ∀ p : Bl w1, p.W.cell? ⟨b, i1 + i * 11 + 2, none⟩ = some (.int .u64 s2) := fun p => (p.h.cell (p := ⟨b, i1 + i * 11 + 2, none⟩) hbl).trans b2
    have u3 : ∀ p : Bl w1, p.W.cell? ⟨b, i1 + i * 11 + 3, none⟩ = some (.int .i64 s3) := fun p => (p.h.cell (p := ⟨b, i1 + i * 11 + 3, none⟩) hbl).trans b3
    have hk1 : ((i + 1 : Nat) : Int) - 1 = (i : Int) := by omega
    have hk2 : (i : Int) + 1 - 1 = (i : Int) := by omega
    have hw1 : IntKind.i64.wrap (i : Int) = (i : Int) := by rw [IntKind.wrap_i64]; omega
    have hk3 : (((i + 1 : Nat) : Int) == 0) = false := beq_eq_false_iff_ne.2 (by omega)
    have hk4 : ((i : Int) + 1 == 0) = false := beq_eq_false_iff_ne.2 (by omega)
    cases HB
    · have HV := HFA.out rfl
      clear HTR HFA ax
      go_wp2_with fail
      refine wp_region_bl (by kernel_rfl) (by kernel_rfl) ?_
      repeat (go_big_quiet_step (first | (go_at_call 63; with_reducible exact bl_call (ch _))))
      refine wpQuiet_nil ?_
      intro wq hw'
      obtain ⟨⟨wz, hq⟩, hw2⟩ := hw'
      subst hw2
      have hz := HR2.out _ (below2 hb1 hq)
      have hW := below2 hbx hq
      clear n0 m0 m1 u0 u1 u2 u3 hq hb1 hO1 ch b0 b1 b2 b3 b4 b5 b6 b7 b8 b9 b10
      obtain ⟨f0, f1, f2, f3, f4, f5, f6, f7, f8, f9, f10⟩ : _ ∧ _ ∧ _ ∧ _ ∧ _ ∧ _ ∧ _ ∧ _ ∧ _ ∧ _ ∧ _ := ⟨hz.cell 0, hz.cell 1, hz.cell 2, hz.cell 3, hz.cell 4, hz.cell 5, hz.cell 6, hz.cell 7, hz.cell 8, hz.cell 9, hz.cell 10⟩
      simp only [List.getElem?_cons_zero, List.getElem?_cons_succ] at f0 f1 f2 f3 f4 f5 f6 f7 f8 f9 f10
      have ff := hz.frozen
      have hzl := hz.lt
      go_wp2_with fail
      (try simp only [Exit.inBlock, Exit.then])
      refine bodyPost_ret (v := .tuple #[.agg #[.bool false, .int .u64 0, .int .u64 0, .int .i64 0, .bool false, .int .u64 0, .int .u64 0, .int .i64 0, .int .u8 0, .int .i64 0, .slice none 0 0], .bool false]) ?_ rfl ⟨HV, (bset (bset (bset (bset (bset (bset (bset (bset (bset (bset (bset hW (by omega)) (by omega)) (by omega)) (by omega)) (by omega)) (by omega)) (by omega)) (by omega)) (by omega)) (by omega)) (by omega))⟩
      rw [results_cell_tmp1 rfl]
      go_simp
    · have HV := HTR.out rfl
      clear HTR HFA ax
      go_wp2_with fail
      refine wp_region_bl (by kernel_rfl) (by kernel_rfl) ?_
      repeat (go_big_quiet_step (first | (go_at_call 63; with_reducible exact bl_call (ch _))))
      refine wpQuiet_nil ?_
      intro wq hw'
      obtain ⟨⟨wz, hq⟩, hw2⟩ := hw'
      subst hw2
      have hz := HR2.out _ (below2 hb1 hq)
      have hW := below2 hbx hq
      have hOq := hO1.below hq
      have g0 : wq.cell? ⟨w.heap.size, 0, none⟩ = some (.slice (some ⟨b, i1, none⟩) n c) := by have h := hOq.r.cell 0; rw [← HN.out] at h; exact h
      replace b0 := (hq.cell (p := ⟨b, i1 + i * 11, none⟩) hbl).trans b0
      replace b1 := (hq.cell (p := ⟨b, i1 + i * 11 + 1, none⟩) hbl).trans b1
      replace b2 := (hq.cell (p := ⟨b, i1 + i * 11 + 2, none⟩) hbl).trans b2
      replace b3 := (hq.cell (p := ⟨b, i1 + i * 11 + 3, none⟩) hbl).trans b3
      replace b4 := (hq.cell (p := ⟨b, i1 + i * 11 + 4, none⟩) hbl).trans b4
      replace b5 := (hq.cell (p := ⟨b, i1 + i * 11 + 5, none⟩) hbl).trans b5
      replace b6 := (hq.cell (p := ⟨b, i1 + i * 11 + 6, none⟩) hbl).trans b6
      replace b7 := (hq.cell (p := ⟨b, i1 + i * 11 + 7, none⟩) hbl).trans b7
      replace b8 := (hq.cell (p := ⟨b, i1 + i * 11 + 8, none⟩) hbl).trans b8
      replace b9 := (hq.cell (p := ⟨b, i1 + i * 11 + 9, none⟩) hbl).trans b9
      replace b10 := (hq.cell (p := ⟨b, i1 + i * 11 + 10, none⟩) hbl).trans b10
      clear n0 m0 m1 u0 u1 u2 u3 hq hb1 hO1 hOq ch
      obtain ⟨f0, f1, f2, f3, f4, f5, f6, f7, f8, f9, f10⟩ : _ ∧ _ ∧ _ ∧ _ ∧ _ ∧ _ ∧ _ ∧ _ ∧ _ ∧ _ ∧ _ := ⟨hz.cell 0, hz.cell 1, hz.cell 2, hz.cell 3, hz.cell 4, hz.cell 5, hz.cell 6, hz.cell 7, hz.cell 8, hz.cell 9, hz.cell 10⟩
      simp only [List.getElem?_cons_zero, List.getElem?_cons_succ] at f0 f1 f2 f3 f4 f5 f6 f7 f8 f9 f10
      have ff := hz.frozen
      have hzl := hz.lt
      go_wp2_with fail
      (try simp only [Exit.inBlock, Exit.then])
      refine bodyPost_ret (v := .tuple #[.agg #[.bool s0, .int .u64 s1, .int .u64 s2, .int .i64 s3, .bool s0, .int .u64 s1, .int .u64 s2, .int .i64 s3, .int .u8 s4, .int .i64 s5, .slice oo nn cc], .bool true]) ?_ rfl ⟨HV, (bset (bset (bset (bset (bset (bset (bset (bset (bset (bset (bset hW (by omega)) (by omega)) (by omega)) (by omega)) (by omega)) (by omega)) (by omega)) (by omega)) (by omega)) (by omega)) (by omega))⟩
      rw [results_cell_tmp1 rfl]
      go_simp
end Go.Proofs.Ytaaedgfacnaggaa.Tr
namespace Go.Proofs.Ytaaedgfacnaggaa.Tr
open Go.RowKit Go.Shelf
open Go.Proofs.Ytaaedgfacnaggaa.Lk (HasRow)
open Go.Proofs.Ytaaedgfacnaggaa.Addr (hiN loN RowAt)
attribute [local go_sem] Oper.semAt_some
theorem row_keepC {W W' : World} {Q : Nat → Prop} {v : Value} {sz n : Nat} {cs : List Value} (h : HasRow W v sz n cs) (hsz : 0 < sz) (hq : InQ Q v) (hb : ∀ b o, Q b → W.heap[b]? = some o → o.isCells = true → W'.heap[b]? = some o) (hs : W.heap.size ≤ W'.heap.size) : HasRow W' v sz n cs := by
  refine ⟨h.1, ?_⟩
  rcases h.2 with h0 | ⟨a, cap, e, h1, h2, h3, h4⟩
  · exact .inl h0
  · refine .inr ⟨a, cap, e, h1, h2, fun h => ⟨(h3 h).1, Nat.lt_of_lt_of_le (h3 h).2 hs⟩, fun j hj => ?_⟩
    have hc := h4 j hj
    rw [List.getElem?_eq_getElem (by rw [h.1]; exact hj)] at hc
    have hbk : (a.add j).block = a.block := by unfold Addr.add; split <;> rfl
    obtain ⟨o, ho, hoc⟩ : ∃ o, W.heap[(a.add j).block]? = some o ∧ o.isCells = true := by
      unfold World.cell? at hc
      cases hh : W.heap[(a.add j).block]? with
      | none => simp [hh] at hc
      | some o =>
        cases o with
        | cells cur t fr => exact ⟨_, rfl, rfl⟩
        | _ => simp [hh] at hc
    rw [← h4 j hj]
    refine World.cell?_of_block ?_
    rw [hb _ o (by rw [hbk]; exact hq a _ _ e) ho hoc, ho]
theorem HasTrie.keepC : ∀ (f : Nat) {W W' : World} {Q : Nat → Prop} {six : Bool} {v : Value} {L : List Rt}, HasTrie f W Q six v L → (∀ b o, Q b → W.heap[b]? = some o → o.isCells = true → W'.heap[b]? = some o) → W.heap.size ≤ W'.heap.size → HasTrie f W' Q six v L
  | 0, _, _, _, _, _, _, h, _, _ => h
  | f + 1, W, W', Q, six, v, L, h, hb, hs => by
    obtain ⟨s, us, h1, h2, h3, h4, h5, h6⟩ := h
    exact ⟨s, us, h1, h2, h3, row_keepC h4 (by decide) h5 hb hs, h5, fun i a b => HasTrie.keepC f (h6 i a b) hb hs⟩
/-- what a round may change: two variables, and what is no cells -/
def Kw (bL bW : Nat) (W W' : World) : Prop := W.heap.size ≤ W'.heap.size ∧ ∀ b o, b ≠ bL → b ≠ bW → W.heap[b]? = some o → o.isCells = true → W'.heap[b]? = some o
theorem kw_t {bL bW : Nat} {A B C : World} (h : Kw bL bW A B) (k : Kw bL bW B C) : Kw bL bW A C := ⟨Nat.le_trans h.1 k.1, fun b o h1 h2 h3 h4 => k.2 b o h1 h2 (h.2 b o h1 h2 h3 h4) h4⟩
def encW (r : Rt) : Array Value := #[.agg #[.bool r.pf.six, .int .u64 (hiN r.pf.n : Int), .int .u64 (loN r.pf.n : Int), .int .i64 r.pf.len, .int .u8 (r.act.k : Int), .int .i64 r.act.i]]
/-- the iterator between two rounds: the node that has the address, and the row under it -/
structure WayI (B : Nat) (W : World) (six : Bool) (a g5 b2 b3 : Nat) (f : Nat) (r : Rt) (u : Value) (S : List Rt) : Prop where
  node : RowAt W g5 (nodeC r u) 81
  tr : HasTrie f W (fun b => B ≤ b ∧ b < W.heap.size ∧ b ≠ g5) six u S
  s6 : RowAt W b2 [.bool six] 4
  ad : RowAt W b3 [.int .u64 (hiN a : Int), .int .u64 (loN a : Int)] 25
  g5B : B ≤ g5
theorem rowAt_kw {bL bW : Nat} {W W' : World} {g : Nat} {cs : List Value} {t : TypeId} (h : RowAt W g cs t) (k : Kw bL bW W W') (h1 : g ≠ bL) (h2 : g ≠ bW) : RowAt W' g cs t := k.2 g _ h1 h2 h rfl
end Go.Proofs.Ytaaedgfacnaggaa.Tr
