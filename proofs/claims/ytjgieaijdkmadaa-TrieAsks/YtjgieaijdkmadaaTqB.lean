/- trie.Longest. -/
import Derived.Test.YtjgieaijdkmadaaTqA
import Derived.Laws.Cover3
import Derived.Test.YtjgieaijdkmadaaAddrQuiet
import Derived.RangeFuncNested
import Derived.RangeFuncBound
import Derived.RangeFuncCalls
import Derived.RangeFuncLeaves
import Derived.RangeFuncBox
import Derived.Shelf.Abstract
import Derived.Shelf.RegionOpen
import Derived.OwnWalkIn
import Derived.TacticsInMore
import Derived.LoopNIn
import Derived.LoopIn
import Derived.Sort.CutIn
import Derived.Sort.LoopGhostIn
import Derived.Deep.RegionHeld3
import Derived.Test.YtjgieaijdkmadaaProg
set_option linter.unusedVariables false
namespace Go.Proofs.Ytjgieaijdkmadaa.Tr
open Go.RowKit
open Go.Proofs.Ytjgieaijdkmadaa.Lk (HasRow)
open Go.Proofs.Ytjgieaijdkmadaa.Addr (Pf okP wideN kP hasB coversB rightB hiN loN pfV RowAt below2 below_drew below_new bset RowAt.lt RowAt.cell RowAt.frozen RowAt.below RowAt.drew RowAt.new RowAt.alloc RowAt.set1 cells2)
def rootP (six : Bool) : Pf := ⟨six, 0, 0⟩
theorem root_ok (six : Bool) : okP (rootP six) = true := by cases six <;> decide
theorem root_covers (six : Bool) {x : Pf} (hx : okP x = true) : coversB (rootP six) x = decide (x.six = six) := by
  have hp := ok_parts hx
  by_cases h : x.six = six
  · rw [decide_eq_true h]
    have hh : hasB (rootP six) x.six x.n = true := (has_iff (root_ok six) _ _).2 ⟨h.symm, hp.2.2.1, Nat.zero_le _, by
      show x.n < 0 + 2 ^ (wideN six - 0)
      rw [← h]
      simpa using hp.2.2.1⟩
    unfold coversB
    rw [hx, hh, decide_eq_true (show (rootP six).len ≤ x.len from hp.1)]
    rfl
  · rw [decide_eq_false h]
    cases hc : coversB (rootP six) x with
    | false => rfl
    | true => exact absurd (covers_six hc) h
/-- the routes of a kind's addresses -/
theorem kinds_of {L : List Rt} {j : Nat} (hu : Up L) (hok : ∀ x ∈ L, okP x.pf = true) (hj : j ≤ L.length) (h1 : ∀ x ∈ L.take j, coversB (rootP false) x.pf = true) (h2 : ∀ h : j < L.length, coversB (rootP false) L[j].pf = false) : (∀ x ∈ L.take j, x.pf.six = false) ∧ ∀ x ∈ L.drop j, x.pf.six = true := by
  refine ⟨fun x hx => covers_six (h1 x hx), fun x hx => ?_⟩
  obtain ⟨i, hi, rfl⟩ := List.getElem_of_mem hx
  rw [List.length_drop] at hi
  rw [List.getElem_drop]
  have hjl : j < L.length := by omega
  have h3 := h2 hjl
  rw [root_covers false (hok _ (List.getElem_mem hjl))] at h3
  have h4 : L[j].pf.six = true := by
    cases h : L[j].pf.six with
    | true => rfl
    | false => rw [h] at h3; simp at h3
  by_cases e : i = 0
  · subst e; exact h4
  · have h5 := List.pairwise_iff_getElem.1 hu j (j + i) hjl (by omega) (by omega)
    unfold ltP at h5
    rcases h5 with ⟨a, _⟩ | ⟨a, _⟩
    · rw [h4] at a; cases a
    · rw [← a]; exact h4
theorem filter_kind {L K R : List Rt} {six : Bool} (h : L = K ++ R ∨ L = R ++ K) (hR : ∀ x ∈ R, x.pf.six ≠ six) (a : Nat) : K.filter (hasR six a) = L.filter (hasR six a) := by
  have hz : R.filter (hasR six a) = [] := by
    rw [List.filter_eq_nil_iff]
    intro x hx hc
    have hh : hasB x.pf six a = true := hc
    exact hR x hx ((has_iff (has_ok hh) _ _).1 hh).1
  rcases h with rfl | rfl
  · rw [List.filter_append, hz, List.append_nil]
  · rw [List.filter_append, hz, List.nil_append]
theorem index2 (w : World) : (Instr.index 121 (.agg #[.bool false, .bool true]) (.int .i64 0)).run Try.prog w = .ok (.bool false) w ∧ (Instr.index 121 (.agg #[.bool false, .bool true]) (.int .i64 1)).run Try.prog w = .ok (.bool true) w := by
  have h : Try.prog.underlying 121 = some (.array 2 4) := Try.underlying121
  have hz : ∀ w, (Go.sizeOf 4).run Try.prog w = .ok 1 w := fun w => Try.sizeOf4 w
  refine ⟨?_, ?_⟩ <;> simp [Instr.index, run_underlying h, asIntOf, hz, go_sem]
/-- a trie in memory -/
structure TrieAt (B : Nat) (W : World) (g : Nat) (u0 u1 : Value) (N : Nat) (K0 K1 : List Rt) : Prop where
  row : RowAt W g [u0, u1] 107
  t0 : HasTrie N W (fun b => B ≤ b ∧ b < W.heap.size) false u0 K0
  t1 : HasTrie N W (fun b => B ≤ b ∧ b < W.heap.size) true u1 K1
  ge : B ≤ g
theorem TrieAt.below {B : Nat} {W W' : World} {g N : Nat} {u0 u1 : Value} {K0 K1 : List Rt} (h : TrieAt B W g u0 u1 N K0 K1) (hb : Below W.heap.size W W') : TrieAt B W' g u0 u1 N K0 K1 :=
  ⟨h.row.below hb, (h.t0.below (fun b hb => hb.2) hb).mono _ (fun b h => ⟨h.1, Nat.lt_of_lt_of_le h.2 hb.size⟩), (h.t1.below (fun b hb => hb.2) hb).mono _ (fun b h => ⟨h.1, Nat.lt_of_lt_of_le h.2 hb.size⟩), h.ge⟩
set_option maxHeartbeats 8000000 in
set_option maxRecDepth 20000 in
theorem planted_any (L : List Rt) (v : Value) (w : World) (hl : HasRts w v L) (hu : Up L) (hok : ∀ x ∈ L, okP x.pf = true) (hlen : L.length ≤ 256) :
    Calls Try.prog 69 #[v, .func (.func 70) #[] #[]] w fun e w' => ∃ g u0 u1 K0 K1, e = .returned (.pointer (some ⟨g, 0, none⟩)) ∧ TrieAt w.heap.size w' g u0 u1 257 K0 K1 ∧ (∀ six a, (if six then K1 else K0).filter (hasR six a) = L.filter (hasR six a)) ∧ (∀ six : Bool, (if six then K1 else K0).length ≤ 256) ∧ Below w.heap.size w w' := by
  have ck0 : ∀ W, Calls Try.prog 68 #[.bool false] W fun e w' => e = .returned (.int .i64 0) ∧ w' = W := fun W => kind_any false W
  have ck1 : ∀ W, Calls Try.prog 68 #[.bool true] W fun e w' => e = .returned (.int .i64 1) ∧ w' = W := fun W => kind_any true W
  obtain ⟨o, c, rfl, hc1, hc2⟩ := Lk.HasRow.slice hl
  have cu := fun W (hb : Below w.heap.size w W) => under_any 257 L _ (rootP false) W (by omega) (hl.keep hb) hu hok (fit_ok (root_ok false)) hlen
  have HC2 : Hid (∀ (j : Nat) (lv : Value) (W : World), j ≤ L.length → HasRts W lv (L.drop j) → Calls Try.prog 85 #[.agg #[.bool true, .int .u64 0, .int .u64 0, .int .i64 0], lv, .func (.func 70) #[] #[]] W fun e w' => ∃ (i : Nat) (u lv' : Value), e = .returned (.tuple #[u, lv']) ∧ i ≤ (L.drop j).length ∧ (∀ W' : World, HasRts W' lv (L.drop j) → HasRts W' lv' ((L.drop j).drop i)) ∧ (∀ x ∈ (L.drop j).take i, coversB (rootP true) x.pf = true) ∧ (∀ h : i < (L.drop j).length, coversB (rootP true) (L.drop j)[i].pf = false) ∧ HasTrie 257 w' (fun b => W.heap.size ≤ b ∧ b < w'.heap.size) true u ((L.drop j).take i) ∧ Below W.heap.size W w') := fun j lv W hj h => under_any 257 (L.drop j) lv (rootP true) W (by rw [List.length_drop]; omega) h (hu.sublist (List.drop_sublist _ _)) (fun x hx => hok x (List.mem_of_mem_drop hx)) (fit_ok (root_ok true)) (by rw [List.length_drop]; omega)
  have HV : Hid (∀ W, Below w.heap.size w W → HasRts W (.slice o L.length c) L) := fun W hb => hl.keep hb
  have HU : Hid (Up L ∧ ∀ x ∈ L, okP x.pf = true) := ⟨hu, hok⟩
  obtain ⟨X, hX⟩ : ∃ X, X = w.alloc (.cells #[.slice none 0 0, .slice none 0 0] 107) := ⟨_, rfl⟩
  have hB : Below w.heap.size w X := by rw [hX]; exact below_new (Below.refl _ _) _
  have r0 : RowAt X w.heap.size [.slice none 0 0, .slice none 0 0] 107 := by rw [hX]; exact RowAt.new _ _ _
  clear hl hu hok
  have hi0 := fun W => (index2 W).1
  have hi1 := fun W => (index2 W).2
  go_enter Try.func69, Try.ntmps69
  go_upto_region 2 with fail
  rw [← hX]
  clear hX
  go_wp2_with fail
  refine wp_loop_rounds 3 ?_
  rw [rounds_succ]
  go_wp2_with fail
  go_at_call 68; refine (ck0 _).mono ?_; rintro e w1 ⟨rfl, hw1⟩
  rw [hw1]
  clear hw1
  go_wp2_with fail
  go_at_call 85; refine (cu _ hB).mono ?_; rintro e w2 ⟨j, u0, lv, rfl, q1, q2, q3, q4, q5, hb2⟩
  obtain ⟨oo, nn, cc, rfl⟩ := trie_slice q5
  have r2 := r0.below hb2
  have hb02 := below2 hB hb2
  obtain ⟨y0, y1, yf⟩ := cells2 r2
  have hyl := r2.lt
  obtain ⟨W3, hW3⟩ : ∃ W3, W3 = w2.setCell ⟨w.heap.size, 0, none⟩ (.slice oo nn cc) := ⟨_, rfl⟩
  have r3 : RowAt W3 w.heap.size [.slice oo nn cc, .slice none 0 0] 107 := by rw [hW3]; exact r2.set1 0 _
  have hb3 : Below w.heap.size w W3 := by rw [hW3]; exact bset hb02 (Nat.le_refl _)
  have q6 : HasTrie 257 W3 (fun b => w.heap.size + 1 ≤ b ∧ b < W3.heap.size) false (.slice oo nn cc) (L.take j) := by
    have hXs : w.heap.size + 1 ≤ X.heap.size := r0.lt
    refine (HasTrie.keepQ 257 (W' := W3) q5 (fun b hb => ?_) (by rw [hW3]; simp)).mono _ (fun b hb => ⟨by have := hb.1; omega, by have := hb.2; rw [hW3]; simpa using this⟩)
    rw [hW3]
    exact heap_setCell_other w2 ⟨w.heap.size, 0, none⟩ b _ (fun e => by have := hb.1; simp at e; omega)
  have HW3 : Hid (W3 = w2.setCell ⟨w.heap.size, 0, none⟩ (.slice oo nn cc)) := hW3
  clear q5 hW3
  have hlv3 := q2 _ (HV.out _ hb3)
  obtain ⟨hk0, hk1⟩ := kinds_of HU.out.1 HU.out.2 q1 q3 q4
  have cu2 := fun W (hb : Below W3.heap.size W3 W) => HC2.out j lv W q1 (hlv3.keep hb)
  go_upto_region 6 with fail
  rw [← HW3.out]
  clear HW3 y0 y1 yf hyl r2 hb02 hb2 cu
  go_wp2_with fail
  rw [rounds_succ]
  go_wp2_with fail
  go_at_call 68; refine (ck1 _).mono ?_; rintro e w4 ⟨rfl, hw4⟩
  rw [hw4]
  clear hw4
  go_wp2_with fail
  go_at_call 85; refine (cu2 _ (Below.refl _ _)).mono ?_; rintro e w5 ⟨i, u1, lv2, rfl, p1, p2, p3, p4, p5, hb5⟩
  obtain ⟨o1, n1, c1, rfl⟩ := trie_slice p5
  have r5 := r3.below hb5
  have hb05 := below2 hb3 hb5
  obtain ⟨y0, y1, yf⟩ := cells2 r5
  have hyl := r5.lt
  have hall : (L.drop j).take i = L.drop j := by
    by_cases hi : i < (L.drop j).length
    · exfalso
      have h1 := p4 hi
      rw [root_covers true (HU.out.2 _ (List.mem_of_mem_drop (List.getElem_mem hi))), hk1 _ (List.getElem_mem hi)] at h1
      simp at h1
    · exact List.take_of_length_le (by omega)
  rw [hall] at p5
  obtain ⟨W6, hW6⟩ : ∃ W6, W6 = w5.setCell ⟨w.heap.size, 1, none⟩ (.slice o1 n1 c1) := ⟨_, rfl⟩
  have hT : TrieAt w.heap.size W6 w.heap.size (.slice oo nn cc) (.slice o1 n1 c1) 257 (L.take j) (L.drop j) := by
    have hs3 : w.heap.size < W3.heap.size := r3.lt
    refine ⟨by rw [hW6]; exact r5.set1 1 _, ?_, ?_, Nat.le_refl _⟩
    · have q7 := q6.below (fun b hb => hb.2) hb5
      refine (HasTrie.keepQ 257 (W' := W6) q7 (fun b hb => ?_) (by rw [hW6]; simp)).mono _ (fun b hb => ⟨by have := hb.1; omega, by have h1 := hb.2; have h2 := hb5.size; rw [hW6]; simp; omega⟩)
      rw [hW6]
      exact heap_setCell_other w5 ⟨w.heap.size, 1, none⟩ b _ (fun e => by have := hb.1; simp at e; omega)
    · refine (HasTrie.keepQ 257 (W' := W6) p5 (fun b hb => ?_) (by rw [hW6]; simp)).mono _ (fun b hb => ⟨by have := hb.1; omega, by have h1 := hb.2; rw [hW6]; simpa using h1⟩)
      rw [hW6]
      exact heap_setCell_other w5 ⟨w.heap.size, 1, none⟩ b _ (fun e => by have := hb.1; simp at e; omega)
  have hb6 : Below w.heap.size w W6 := by rw [hW6]; exact bset hb05 (Nat.le_refl _)
  have HFL : Hid (∀ six a, (if six then L.drop j else L.take j).filter (hasR six a) = L.filter (hasR six a)) := fun six a => by
    cases six with
    | false => exact filter_kind (.inl (List.take_append_drop j L).symm) (fun x hx => by rw [hk1 x hx]; simp) a
    | true => exact filter_kind (.inr (List.take_append_drop j L).symm) (fun x hx => by rw [hk0 x hx]; simp) a
  have HLN : Hid (∀ six : Bool, (if six then L.drop j else L.take j).length ≤ 256) := fun six => by cases six <;> simp <;> omega
  have HW6 : Hid (W6 = w5.setCell ⟨w.heap.size, 1, none⟩ (.slice o1 n1 c1)) := hW6
  clear hW6 p5 q6 cu2 p1 p2 p3 p4 q1 q2 q3 q4 hk0 hk1 hall hlv3
  go_upto_region 6 with fail
  rw [← HW6.out]
  clear HW6 y0 y1 yf hyl
  go_wp2_with fail
  rw [rounds_succ]
  go_wp2_with fail
  go_ret
  exact ⟨_, _, _, _, _, rfl, hT, HFL.out, HLN.out, hb6⟩
set_option maxHeartbeats 4000000 in
set_option maxRecDepth 20000 in
theorem grown_any (L : List Rt) (v : Value) (w : World) (hl : HasRts w v L) (hu : Up L) (hok : ∀ x ∈ L, okP x.pf = true) (hlen : L.length ≤ 256) :
    Calls Try.prog 41 #[v] w fun e w' => ∃ g u0 u1 K0 K1, e = .returned (.pointer (some ⟨g, 0, none⟩)) ∧ TrieAt w.heap.size w' g u0 u1 257 K0 K1 ∧ (∀ six a, (if six then K1 else K0).filter (hasR six a) = L.filter (hasR six a)) ∧ (∀ six : Bool, (if six then K1 else K0).length ≤ 256) ∧ Below w.heap.size w w' := by
  have cp := planted_any L v w hl hu hok hlen
  obtain ⟨o, c, rfl, hc1, hc2⟩ := Lk.HasRow.slice hl
  clear hl hu hok
  go_enter Try.func41, Try.ntmps41
  go_wp2_with fail
  go_at_call 69; refine cp.mono ?_; rintro e w1 ⟨g, u0, u1, K0, K1, rfl, h1, h2, h3, hb1⟩
  go_wp2_with fail
  go_ret
  exact ⟨_, _, _, _, _, rfl, h1, h2, h3, hb1⟩
end Go.Proofs.Ytjgieaijdkmadaa.Tr
namespace Go.Proofs.Ytjgieaijdkmadaa.Tr
open Go.RowKit
open Go.Proofs.Ytjgieaijdkmadaa.Lk (HasRow)
open Go.Proofs.Ytjgieaijdkmadaa.Addr (Pf okP wideN kP hasB coversB cmpN hiN loN adV pfV cmp_any has_any RowAt below2 below_drew below_new bset RowAt.lt RowAt.cell RowAt.frozen RowAt.below RowAt.drew RowAt.new RowAt.alloc RowAt.set1 cells2 Bl bl_ne wp_region_bl bl_call bl_same)
theorem cmpN_gt (n m : Nat) : (0 < cmpN n m) ↔ m < n := by
  unfold cmpN
  split
  · constructor <;> intro h <;> omega
  · split
    · constructor <;> intro h <;> omega
    · constructor <;> intro h <;> omega
/-- a row of nodes in memory, and an address in a box -/
structure OvW (W : World) (s : List Seg) (us : List Value) (o : Option Addr) (c : Nat) (a bR bA : Nat) : Prop where
  row : HasRow W (.slice o s.length c) 11 s.length (nodeCs s us)
  len : us.length = s.length
  r : RowAt W bR [.slice o s.length c] 101
  ad : RowAt W bA [.int .u64 (hiN a : Int), .int .u64 (loN a : Int)] 25
theorem OvW.below {W W' : World} {s : List Seg} {us : List Value} {o : Option Addr} {c a bR bA : Nat} (h : OvW W s us o c a bR bA) (hb : Below W.heap.size W W') : OvW W' s us o c a bR bA := ⟨h.row.keep hb, h.len, h.r.below hb, h.ad.below hb⟩
theorem node_at {W : World} {s : List Seg} {us : List Value} {o : Option Addr} {c : Nat} (h : HasRow W (.slice o s.length c) 11 s.length (nodeCs s us)) (hl : us.length = s.length) (k : Nat) (hk : k < s.length) (hk2 : k < us.length) : ∃ b i, o = some ⟨b, i, none⟩ ∧ b < W.heap.size ∧ ∀ t, t < 11 → W.cell? ⟨b, i + k * 11 + t, none⟩ = (nodeC s[k].1 us[k])[t]? := by
  obtain ⟨_, b, i, e, hb, hc⟩ := Lk.HasRow.at h (by omega)
  exact ⟨b, i, e, hb, fun t ht => by rw [Nat.add_assoc, hc (k * 11 + t) (by omega), Nat.mul_comm k 11]; exact nodeCs_at s us hl k hk hk2 t ht⟩
set_option maxHeartbeats 8000000 in
set_option maxRecDepth 20000 in
theorem over1_any {s : List Seg} {us : List Value} {o : Option Addr} {c a bR bA : Nat} (k : Nat) (hk : k < s.length) (w : World) (h : OvW w s us o c a bR bA) (hn : s[k].1.pf.n < 2 ^ 128) (ha : a < 2 ^ 128) (hs : s.length ≤ 256) :
    Calls Try.prog 87 #[.int .i64 (k : Int), .pointer (some ⟨bR, 0, none⟩), .pointer (some ⟨bA, 0, none⟩)] w fun e w' => e = .returned (.bool (decide (a < s[k].1.pf.n))) ∧ Below w.heap.size w w' := by
  have cc := fun W => cmp_any s[k].1.pf.n a W hn ha
  have HD : Hid (decide (0 < cmpN s[k].1.pf.n a) = decide (a < s[k].1.pf.n)) := by
    show _ = _
    rw [Bool.eq_iff_iff, decide_eq_true_eq, decide_eq_true_eq]
    exact cmpN_gt _ _
  obtain ⟨b, i, rfl, hb, ax⟩ := node_at h.row h.len k hk (by rw [h.len]; exact hk)
  have b1 := ax 1 (by decide)
  have b2 := ax 2 (by decide)
  simp only [nodeC, pfC, List.cons_append, List.nil_append, List.getElem?_cons_zero, List.getElem?_cons_succ] at b1 b2
  unfold adV at cc
  have u1 : ∀ p : Bl w, p.W.cell? ⟨b, i + k * 11 + 1, none⟩ = some (.int .u64 (hiN s[k].1.pf.n : Int)) := fun p => (p.h.cell (p := ⟨b, i + k * 11 + 1, none⟩) hb).trans b1
  have u2 : ∀ p : Bl w, p.W.cell? ⟨b, i + k * 11 + 2, none⟩ = some (.int .u64 (loN s[k].1.pf.n : Int)) := fun p => (p.h.cell (p := ⟨b, i + k * 11 + 2, none⟩) hb).trans b2
  have m0 : ∀ p : Bl w, p.W.cell? ⟨bA, 0, none⟩ = some (.int .u64 (hiN a : Int)) := fun p => (h.ad.below p.h).cell 0
  have m1 : ∀ p : Bl w, p.W.cell? ⟨bA, 1, none⟩ = some (.int .u64 (loN a : Int)) := fun p => (h.ad.below p.h).cell 1
  have n0 : ∀ p : Bl w, p.W.cell? ⟨bR, 0, none⟩ = some (.slice (some ⟨b, i, none⟩) s.length c) := fun p => (h.r.below p.h).cell 0
  have hki : (k : Int) < (s.length : Int) := by omega
  rw [← HD.out]
  clear HD
  generalize cmpN s[k].1.pf.n a = R at *
  generalize (hiN s[k].1.pf.n : Int) = x1 at *
  generalize (loN s[k].1.pf.n : Int) = x2 at *
  generalize (hiN a : Int) = z1 at *
  generalize (loN a : Int) = z2 at *
  have hsi : (s.length : Int) ≤ 256 := by omega
  clear b1 b2 ax h hn
  generalize s.length = n at *
  haveI := bl_ne w
  go_enter Try.func87, Try.ntmps87
  go_wp2_with fail
  refine wp_region_bl (by kernel_rfl) (by kernel_rfl) ?_
  repeat (go_big_quiet_step (first | (go_at_call 27; with_reducible exact bl_call (cc _))))
  refine wpQuiet_nil ?_
  intro wq hw'
  obtain ⟨⟨wz, hq⟩, hw2⟩ := hw'
  subst hw2
  clear u1 u2 m0 m1 n0 cc
  go_wp2_with fail
  go_ret
  exact ⟨rfl, hq⟩
set_option maxHeartbeats 8000000 in
set_option maxRecDepth 20000 in
theorem searchs_any {s : List Seg} {us : List Value} {o : Option Addr} {c a bR bA : Nat} {six : Bool} (w : World) (h : OvW w s us o c a bR bA) (hg : Good s six) (ha : a < 2 ^ 128) (hs : s.length ≤ 256) :
    Calls Try.prog 86 #[.int .i64 (s.length : Int), .func (.func 87) #[] #[.pointer (some ⟨bR, 0, none⟩), .pointer (some ⟨bA, 0, none⟩)]] w fun e w' => ∃ k, Cut s a k ∧ e = .returned (.int .i64 (k : Int)) ∧ Below w.heap.size w w' := by
  have HC : Hid (∀ k (hk : k < s.length) (W : World), Below w.heap.size w W → Calls Try.prog 87 #[.int .i64 (k : Int), .pointer (some ⟨bR, 0, none⟩), .pointer (some ⟨bA, 0, none⟩)] W fun e w' => e = .returned (.bool (decide (a < s[k].1.pf.n))) ∧ Below W.heap.size W w') := fun k hk W hb => over1_any k hk W (h.below hb) (fit_ok (hg.ok _ (List.getElem_mem hk))).2 ha hs
  have HUp : Hid (∀ i j (hi : i < s.length) (hj : j < s.length), i ≤ j → s[i].1.pf.n ≤ s[j].1.pf.n) := fun i j hi hj hij => by
    by_cases e : i = j
    · subst e; exact Nat.le_refl _
    · have := List.pairwise_iff_getElem.1 hg.up i j hi hj (by omega)
      exact Nat.le_trans (Nat.le_add_right _ _) this
  obtain ⟨n, hn⟩ : ∃ n, n = s.length := ⟨_, rfl⟩
  have HN : Hid (n = s.length) := hn
  rw [← hn] at hs ⊢
  have hni : (n : Int) ≤ 256 := by omega
  clear h hg hn
  go_enter Try.func86, Try.ntmps86
  go_wp2_with fail
  go_loopw [5, 6] (fun u q wr => ∃ i j : Nat, i ≤ j ∧ j ≤ n ∧ u = .int .i64 i ∧ q = .int .i64 j ∧ Below w.heap.size w wr ∧ Hid ((∀ t (h : t < s.length), t < i → s[t].1.pf.n ≤ a) ∧ ∀ t (h : t < s.length), j ≤ t → a < s[t].1.pf.n)) (fun u q _ => (Go.RowKit.intOf q).toNat - (Go.RowKit.intOf u).toNat)
  case atStart => exact ⟨0, n, by omega, Nat.le_refl _, rfl, rfl, Below.refl _ _, (⟨fun t h h2 => by omega, fun t h h2 => by have := HN.out; omega⟩ : (∀ t (h : t < s.length), t < 0 → s[t].1.pf.n ≤ a) ∧ ∀ t (h : t < s.length), n ≤ t → a < s[t].1.pf.n)⟩
  case round =>
    obtain ⟨i, j, hij, hjn, rfl, rfl, hbr, HI⟩ := hrel
    have hin : (i : Int) ≤ 256 := by omega
    have hjn2 : (j : Int) ≤ 256 := by omega
    by_cases hlt : i < j
    · have hlti : (i : Int) < (j : Int) := by omega
      have hhl : (i + j) / 2 < s.length := by have := HN.out; omega
      have co := HC.out ((i + j) / 2) hhl
      have HLB : Hid (¬ (a < s[(i + j) / 2].1.pf.n) → ∀ t (h : t < s.length), t < (i + j) / 2 + 1 → s[t].1.pf.n ≤ a) := fun hq t h ht => by have := HUp.out t ((i + j) / 2) h hhl (by omega); omega
      have HLA : Hid (a < s[(i + j) / 2].1.pf.n → ∀ t (h : t < s.length), (i + j) / 2 ≤ t → a < s[t].1.pf.n) := fun hq t h ht => by have := HUp.out ((i + j) / 2) t hhl h ht; omega
      go_upto_region 4 with fail
      rw [show ((i : Int) + (j : Int)) / 2 = (((i + j) / 2 : Nat) : Int) by omega]
      have hm1 : i ≤ (i + j) / 2 := by omega
      have hm2 : (i + j) / 2 < j := by omega
      generalize (i + j) / 2 = m at *
      go_wp2_with fail
      go_at_call 87; refine (co _ hbr).mono ?_; rintro e w1 ⟨rfl, hb1⟩
      have hW := below2 hbr hb1
      clear hbr hb1 co
      by_cases hd : a < s[m].1.pf.n
      · have HF : Hid ((∀ t (h : t < s.length), t < i → s[t].1.pf.n ≤ a) ∧ ∀ t (h : t < s.length), m ≤ t → a < s[t].1.pf.n) := ⟨HI.out.1, HLA.out hd⟩
        rw [decide_eq_true hd]
        clear HLA HLB HI hd
        go_wp2_with fail
        go_roundw
        case rel => exact ⟨i, m, hm1, by omega, rfl, rfl, hW, HF⟩
        case measure => simp [Go.RowKit.intOf]; omega
      · have HF : Hid ((∀ t (h : t < s.length), t < m + 1 → s[t].1.pf.n ≤ a) ∧ ∀ t (h : t < s.length), j ≤ t → a < s[t].1.pf.n) := ⟨HLB.out hd, HI.out.2⟩
        rw [decide_eq_false hd]
        clear HLA HLB HI hd
        go_wp2_with fail
        go_roundw
        case rel => exact ⟨m + 1, j, by omega, hjn, by go_num, rfl, hW, HF⟩
        case measure => simp [Go.RowKit.intOf]; omega
    · obtain rfl : i = j := by omega
      have hd : decide ((i : Int) < (i : Int)) = false := decide_eq_false (by omega)
      have HP : Hid (Cut s a i) := ⟨by have := HN.out; omega, HI.out.1, HI.out.2⟩
      clear HI
      go_wp2_with fail
      go_ret
      exact ⟨i, HP.out, rfl, hbr⟩
def nodeV (r : Rt) (u : Value) : Value := .agg #[.bool r.pf.six, .int .u64 (hiN r.pf.n : Int), .int .u64 (loN r.pf.n : Int), .int .i64 r.pf.len, .bool r.pf.six, .int .u64 (hiN r.pf.n : Int), .int .u64 (loN r.pf.n : Int), .int .i64 r.pf.len, .int .u8 (r.act.k : Int), .int .i64 r.act.i, u]
def zeroN : Value := .agg #[.bool false, .int .u64 0, .int .u64 0, .int .i64 0, .bool false, .int .u64 0, .int .u64 0, .int .i64 0, .int .u8 0, .int .i64 0, .slice none 0 0]
theorem eleven_at {X : World} {g i : Nat} {r : Rt} {u : Value} (h : ∀ t, t < 11 → X.cell? ⟨g, i + t, none⟩ = (nodeC r u)[t]?) : X.cell? ⟨g, i, none⟩ = some (.bool r.pf.six) ∧ X.cell? ⟨g, i + 1, none⟩ = some (.int .u64 (hiN r.pf.n : Int)) ∧ X.cell? ⟨g, i + 2, none⟩ = some (.int .u64 (loN r.pf.n : Int)) ∧ X.cell? ⟨g, i + 3, none⟩ = some (.int .i64 r.pf.len) ∧ X.cell? ⟨g, i + 4, none⟩ = some (.bool r.pf.six) ∧ X.cell? ⟨g, i + 5, none⟩ = some (.int .u64 (hiN r.pf.n : Int)) ∧ X.cell? ⟨g, i + 6, none⟩ = some (.int .u64 (loN r.pf.n : Int)) ∧ X.cell? ⟨g, i + 7, none⟩ = some (.int .i64 r.pf.len) ∧ X.cell? ⟨g, i + 8, none⟩ = some (.int .u8 (r.act.k : Int)) ∧ X.cell? ⟨g, i + 9, none⟩ = some (.int .i64 r.act.i) ∧ X.cell? ⟨g, i + 10, none⟩ = some u :=
  ⟨h 0 (by decide), h 1 (by decide), h 2 (by decide), h 3 (by decide), h 4 (by decide), h 5 (by decide), h 6 (by decide), h 7 (by decide), h 8 (by decide), h 9 (by decide), h 10 (by decide)⟩
end Go.Proofs.Ytjgieaijdkmadaa.Tr
namespace Go.Proofs.Ytjgieaijdkmadaa.Tr
open Go.RowKit
open Go.Proofs.Ytjgieaijdkmadaa.Lk (HasRow)
open Go.Proofs.Ytjgieaijdkmadaa.Addr (Pf okP wideN kP hasB coversB cmpN hiN loN adV pfV cmp_any has_any RowAt below2 below_drew below_new bset RowAt.lt RowAt.cell RowAt.frozen RowAt.below RowAt.drew RowAt.new RowAt.alloc RowAt.set1 cells2 Bl bl_ne wp_region_bl bl_call bl_same)
theorem results_cell_tmp1 {fn : Func} {p u : Tmp} {ty : TypeId} (h : fn.results = #[.cell p ty, .tmp u]) (tmps : Array Value) (P : Program) (w : World) :
    (results fn tmps).run P w = ((asAddr (tmps.getD p undef)).run P w).andThen fun a w₁ => ((loadVar ty a).run P w₁).andThen fun v w₂ => .ok (.tuple #[v, tmps.getD u undef]) w₂ := by
  simp only [results, h]
  simp [Sem.run_bind, Result.andThen]
/-- what over answers of a row -/
def OvR (s : List Seg) (us : List Value) (six : Bool) (a : Nat) (e : Ending) : Prop := ∃ k, Cut s a k ∧ (((k = 0 ∨ ∀ h : k - 1 < s.length, hasB s[k - 1].1.pf six a = false) ∧ e = .returned (.tuple #[zeroN, .bool false])) ∨ ∃ (h : k - 1 < s.length) (h2 : k - 1 < us.length), 0 < k ∧ hasB s[k - 1].1.pf six a = true ∧ e = .returned (.tuple #[nodeV s[k - 1].1 us[k - 1], .bool true]))
set_option maxHeartbeats 8000000 in
set_option maxRecDepth 20000 in
theorem over_any {s : List Seg} {us : List Value} {v : Value} {a : Nat} {six0 : Bool} (six : Bool) (w : World) (hr : HasRow w v 11 s.length (nodeCs s us)) (hl : us.length = s.length) (hus : ∀ i (h : i < us.length), ∃ o n c, us[i] = .slice o n c) (hg : Good s six0) (ha : a < 2 ^ 128) (hs : s.length ≤ 256) :
    Calls Try.prog 72 #[v, .bool six, .agg #[.int .u64 (hiN a : Int), .int .u64 (loN a : Int)]] w fun e w' => OvR s us six a e ∧ Below w.heap.size w w' := by
  obtain ⟨o, c, rfl, hc1, hc2⟩ := Lk.HasRow.slice hr
  obtain ⟨X, hX⟩ : ∃ X, X = ((w.alloc (.cells #[.slice o s.length c] 101)).alloc (.cells #[.int .u64 (hiN a : Int), .int .u64 (loN a : Int)] 25)).alloc (.cells #[.bool false, .int .u64 0, .int .u64 0, .int .i64 0, .bool false, .int .u64 0, .int .u64 0, .int .i64 0, .int .u8 0, .int .i64 0, .slice none 0 0] 103) := ⟨_, rfl⟩
  have hB : Below w.heap.size w X := by rw [hX]; exact below_new (below_new (below_new (Below.refl _ _) _) _) _
  have e1 : (w.alloc (.cells #[.slice o s.length c] 101)).heap.size = w.heap.size + 1 := World.size_alloc _ _
  have e2 : ((w.alloc (.cells #[.slice o s.length c] 101)).alloc (.cells #[.int .u64 (hiN a : Int), .int .u64 (loN a : Int)] 25)).heap.size = w.heap.size + 1 + 1 := by rw [World.size_alloc, e1]
  have r0 : RowAt X w.heap.size [.slice o s.length c] 101 := by rw [hX]; exact ((RowAt.new _ _ _).alloc _).alloc _
  have r1 : RowAt X (w.heap.size + 1) [.int .u64 (hiN a : Int), .int .u64 (loN a : Int)] 25 := by rw [hX, ← e1]; exact (RowAt.new _ _ _).alloc _
  have r2 : RowAt X (w.heap.size + 1 + 1) [.bool false, .int .u64 0, .int .u64 0, .int .i64 0, .bool false, .int .u64 0, .int .u64 0, .int .i64 0, .int .u8 0, .int .i64 0, .slice none 0 0] 103 := by rw [hX, ← e2]; exact RowAt.new _ _ _
  have hO : OvW X s us o c a w.heap.size (w.heap.size + 1) := ⟨hr.keep hB, hl, r0, r1⟩
  have cs := searchs_any X hO hg ha hs
  have HH : Hid (∀ k (hk : k < s.length) (W : World), Calls Try.prog 25 #[.agg #[.bool s[k].1.pf.six, .int .u64 (hiN s[k].1.pf.n : Int), .int .u64 (loN s[k].1.pf.n : Int), .int .i64 s[k].1.pf.len], .bool six, .agg #[.int .u64 (hiN a : Int), .int .u64 (loN a : Int)]] W fun e w' => e = .returned (.bool (hasB s[k].1.pf six a)) ∧ Below W.heap.size W w') := fun k hk W => by
    have hf := fit_ok (hg.ok _ (List.getElem_mem hk))
    exact has_any s[k].1.pf six a W hf.1 hf.2 ha
  have q0 := r0.cell 0
  simp only [List.getElem?_cons_zero] at q0
  obtain ⟨n, hn⟩ : ∃ n, n = s.length := ⟨_, rfl⟩
  have HN : Hid (n = s.length) := hn
  have HOV : Hid (∀ W, Below X.heap.size X W → OvW W s us o c a w.heap.size (w.heap.size + 1)) := fun W hb => hO.below hb
  have HR2 : Hid (∀ W, Below X.heap.size X W → RowAt W (w.heap.size + 1 + 1) [.bool false, .int .u64 0, .int .u64 0, .int .i64 0, .bool false, .int .u64 0, .int .u64 0, .int .i64 0, .int .u8 0, .int .i64 0, .slice none 0 0] 103) := fun W hb => r2.below hb
  have HAD : Hid (∀ W, Below X.heap.size X W → RowAt W (w.heap.size + 1) [.int .u64 (hiN a : Int), .int .u64 (loN a : Int)] 25) := fun W hb => r1.below hb
  rw [← hn] at cs hs hc1 q0 hX ⊢
  have hni : (n : Int) ≤ 256 := by omega
  generalize (hiN a : Int) = z1 at *
  generalize (loN a : Int) = z2 at *
  clear e1 e2 r0 r1 r2 hr hg hn hO
  go_enter Try.func72, Try.ntmps72
  go_upto_region 1 with fail
  rw [← hX]
  clear hX
  go_wp2_with fail
  go_at_call 86; refine cs.mono ?_; rintro e w1 ⟨k, hk, rfl, hb1⟩
  have HK : Hid (Cut s a k) := hk
  have hkn : k ≤ n := by rw [HN.out]; exact hk.1
  clear cs q0 hk
  have hO1 := HOV.out _ hb1
  have hbx := below2 hB hb1
  have n0 : ∀ p : Bl w1, p.W.cell? ⟨w.heap.size, 0, none⟩ = some (.slice o n c) := fun p => by have h := (hO1.r.below p.h).cell 0; rw [← HN.out] at h; exact h
  have m0 : ∀ p : Bl w1, p.W.cell? ⟨w.heap.size + 1, 0, none⟩ = some (.int .u64 z1) := fun p => ((HAD.out _ hb1).below p.h).cell 0
  have m1 : ∀ p : Bl w1, p.W.cell? ⟨w.heap.size + 1, 1, none⟩ = some (.int .u64 z2) := fun p => ((HAD.out _ hb1).below p.h).cell 1
  haveI := bl_ne w1
  have hki : (k : Int) ≤ 256 := by omega
  by_cases hk0 : k = 0
  · subst hk0
    go_wp2_with fail
    refine wp_region_bl (by kernel_rfl) (by kernel_rfl) ?_
    repeat (go_big_quiet_step (fail))
    refine wpQuiet_nil ?_
    intro wq hw'
    obtain ⟨⟨wz, hq⟩, hw2⟩ := hw'
    subst hw2
    have hz := HR2.out _ (below2 hb1 hq)
    have hW := below2 hbx hq
    clear n0 m0 m1 hq hb1 hO1
    obtain ⟨f0, f1, f2, f3, f4, f5, f6, f7, f8, f9, f10⟩ : _ ∧ _ ∧ _ ∧ _ ∧ _ ∧ _ ∧ _ ∧ _ ∧ _ ∧ _ ∧ _ := ⟨hz.cell 0, hz.cell 1, hz.cell 2, hz.cell 3, hz.cell 4, hz.cell 5, hz.cell 6, hz.cell 7, hz.cell 8, hz.cell 9, hz.cell 10⟩
    simp only [List.getElem?_cons_zero, List.getElem?_cons_succ] at f0 f1 f2 f3 f4 f5 f6 f7 f8 f9 f10
    have ff := hz.frozen
    have hzl := hz.lt
    go_wp2_with fail
    (try simp only [Exit.inBlock, Exit.then])
    refine bodyPost_ret (v := .tuple #[.agg #[.bool false, .int .u64 0, .int .u64 0, .int .i64 0, .bool false, .int .u64 0, .int .u64 0, .int .i64 0, .int .u8 0, .int .i64 0, .slice none 0 0], .bool false]) ?_ rfl ⟨⟨0, HK.out, .inl ⟨.inl rfl, rfl⟩⟩, (bset (bset (bset (bset (bset (bset (bset (bset (bset (bset (bset hW (by omega)) (by omega)) (by omega)) (by omega)) (by omega)) (by omega)) (by omega)) (by omega)) (by omega)) (by omega)) (by omega))⟩
    rw [results_cell_tmp1 rfl]
    go_simp
  · obtain ⟨i, rfl⟩ : ∃ i, k = i + 1 := ⟨k - 1, by omega⟩
    have hil : i < s.length := by have := HN.out; omega
    have hil2 : i < us.length := by rw [hl]; exact hil
    obtain ⟨b, i1, rfl, hbl, ax⟩ := node_at hO1.row hO1.len i hil hil2
    obtain ⟨b0, b1, b2, b3, b4, b5, b6, b7, b8, b9, b10⟩ := eleven_at ax
    have ch := HH.out i hil
    have HFA : Hid (hasB s[i].1.pf six a = false → OvR s us six a (.returned (.tuple #[zeroN, .bool false]))) := fun h => ⟨i + 1, HK.out, .inl ⟨.inr (fun _ => by simpa using h), rfl⟩⟩
    have HTR : Hid (hasB s[i].1.pf six a = true → OvR s us six a (.returned (.tuple #[nodeV s[i].1 us[i], .bool true]))) := fun h => ⟨i + 1, HK.out, .inr ⟨by simpa using hil, by simpa using hil2, by omega, by simpa using h, by simp⟩⟩
    unfold nodeV at HTR
    have hsl := hus i hil2
    generalize hasB s[i].1.pf six a = HB at *
    generalize us[i] = uu at *
    obtain ⟨oo, nn, cc, rfl⟩ := hsl
    generalize s[i].1.pf.six = s0 at *
    generalize (hiN s[i].1.pf.n : Int) = s1 at *
    generalize (loN s[i].1.pf.n : Int) = s2 at *
    generalize s[i].1.pf.len = s3 at *
    generalize (s[i].1.act.k : Int) = s4 at *
    generalize s[i].1.act.i = s5 at *
    have hii : (i : Int) < (n : Int) := by omega
    have hiz : (0 : Int) ≤ (i : Int) := by omega
    have u0 : ∀ p : Bl w1, p.W.cell? ⟨b, i1 + i * 11, none⟩ = some (.bool s0) := fun p => (p.h.cell (p := ⟨b, i1 + i * 11, none⟩) hbl).trans b0
    have u1 : ∀ p : Bl w1, p.W.cell? ⟨b, i1 + i * 11 + 1, none⟩ = some (.int .u64 s1) := fun p => (p.h.cell (p := ⟨b, i1 + i * 11 + 1, none⟩) hbl).trans b1
    have u2 : ∀ p : Bl w1, p.W.cell? ⟨b, i1 + i * 11 + 2, none⟩ = some (.int .u64 s2) := fun p => (p.h.cell (p := ⟨b, i1 + i * 11 + 2, none⟩) hbl).trans b2
    have u3 : ∀ p : Bl w1, p.W.cell? ⟨b, i1 + i * 11 + 3, none⟩ = some (.int .i64 s3) := fun p => (p.h.cell (p := ⟨b, i1 + i * 11 + 3, none⟩) hbl).trans b3
    have hk1 : ((i + 1 : Nat) : Int) - 1 = (i : Int) := by omega
    have hk2 : (i : Int) + 1 - 1 = (i : Int) := by omega
    have hw1 : IntKind.i64.wrap (i : Int) = (i : Int) := by rw [IntKind.wrap_i64]; omega
    have hk3 : (((i + 1 : Nat) : Int) == 0) = false := beq_eq_false_iff_ne.2 (by omega)
    have hk4 : ((i : Int) + 1 == 0) = false := beq_eq_false_iff_ne.2 (by omega)
    cases HB
    · have HV := HFA.out rfl
      clear HTR HFA ax
      go_wp2_with fail
      refine wp_region_bl (by kernel_rfl) (by kernel_rfl) ?_
      repeat (go_big_quiet_step (first | (go_at_call 25; with_reducible exact bl_call (ch _))))
      refine wpQuiet_nil ?_
      intro wq hw'
      obtain ⟨⟨wz, hq⟩, hw2⟩ := hw'
      subst hw2
      have hz := HR2.out _ (below2 hb1 hq)
      have hW := below2 hbx hq
      clear n0 m0 m1 u0 u1 u2 u3 hq hb1 hO1 ch b0 b1 b2 b3 b4 b5 b6 b7 b8 b9 b10
      obtain ⟨f0, f1, f2, f3, f4, f5, f6, f7, f8, f9, f10⟩ : _ ∧ _ ∧ _ ∧ _ ∧ _ ∧ _ ∧ _ ∧ _ ∧ _ ∧ _ ∧ _ := ⟨hz.cell 0, hz.cell 1, hz.cell 2, hz.cell 3, hz.cell 4, hz.cell 5, hz.cell 6, hz.cell 7, hz.cell 8, hz.cell 9, hz.cell 10⟩
      simp only [List.getElem?_cons_zero, List.getElem?_cons_succ] at f0 f1 f2 f3 f4 f5 f6 f7 f8 f9 f10
      have ff := hz.frozen
      have hzl := hz.lt
      go_wp2_with fail
      (try simp only [Exit.inBlock, Exit.then])
      refine bodyPost_ret (v := .tuple #[.agg #[.bool false, .int .u64 0, .int .u64 0, .int .i64 0, .bool false, .int .u64 0, .int .u64 0, .int .i64 0, .int .u8 0, .int .i64 0, .slice none 0 0], .bool false]) ?_ rfl ⟨HV, (bset (bset (bset (bset (bset (bset (bset (bset (bset (bset (bset hW (by omega)) (by omega)) (by omega)) (by omega)) (by omega)) (by omega)) (by omega)) (by omega)) (by omega)) (by omega)) (by omega))⟩
      rw [results_cell_tmp1 rfl]
      go_simp
    · have HV := HTR.out rfl
      clear HTR HFA ax
      go_wp2_with fail
      refine wp_region_bl (by kernel_rfl) (by kernel_rfl) ?_
      repeat (go_big_quiet_step (first | (go_at_call 25; with_reducible exact bl_call (ch _))))
      refine wpQuiet_nil ?_
      intro wq hw'
      obtain ⟨⟨wz, hq⟩, hw2⟩ := hw'
      subst hw2
      have hz := HR2.out _ (below2 hb1 hq)
      have hW := below2 hbx hq
      have hOq := hO1.below hq
      have g0 : wq.cell? ⟨w.heap.size, 0, none⟩ = some (.slice (some ⟨b, i1, none⟩) n c) := by have h := hOq.r.cell 0; rw [← HN.out] at h; exact h
      replace b0 := (hq.cell (p := ⟨b, i1 + i * 11, none⟩) hbl).trans b0
      replace b1 := (hq.cell (p := ⟨b, i1 + i * 11 + 1, none⟩) hbl).trans b1
      replace b2 := (hq.cell (p := ⟨b, i1 + i * 11 + 2, none⟩) hbl).trans b2
      replace b3 := (hq.cell (p := ⟨b, i1 + i * 11 + 3, none⟩) hbl).trans b3
      replace b4 := (hq.cell (p := ⟨b, i1 + i * 11 + 4, none⟩) hbl).trans b4
      replace b5 := (hq.cell (p := ⟨b, i1 + i * 11 + 5, none⟩) hbl).trans b5
      replace b6 := (hq.cell (p := ⟨b, i1 + i * 11 + 6, none⟩) hbl).trans b6
      replace b7 := (hq.cell (p := ⟨b, i1 + i * 11 + 7, none⟩) hbl).trans b7
      replace b8 := (hq.cell (p := ⟨b, i1 + i * 11 + 8, none⟩) hbl).trans b8
      replace b9 := (hq.cell (p := ⟨b, i1 + i * 11 + 9, none⟩) hbl).trans b9
      replace b10 := (hq.cell (p := ⟨b, i1 + i * 11 + 10, none⟩) hbl).trans b10
      clear n0 m0 m1 u0 u1 u2 u3 hq hb1 hO1 hOq ch
      obtain ⟨f0, f1, f2, f3, f4, f5, f6, f7, f8, f9, f10⟩ : _ ∧ _ ∧ _ ∧ _ ∧ _ ∧ _ ∧ _ ∧ _ ∧ _ ∧ _ ∧ _ := ⟨hz.cell 0, hz.cell 1, hz.cell 2, hz.cell 3, hz.cell 4, hz.cell 5, hz.cell 6, hz.cell 7, hz.cell 8, hz.cell 9, hz.cell 10⟩
      simp only [List.getElem?_cons_zero, List.getElem?_cons_succ] at f0 f1 f2 f3 f4 f5 f6 f7 f8 f9 f10
      have ff := hz.frozen
      have hzl := hz.lt
      go_wp2_with fail
      (try simp only [Exit.inBlock, Exit.then])
      refine bodyPost_ret (v := .tuple #[.agg #[.bool s0, .int .u64 s1, .int .u64 s2, .int .i64 s3, .bool s0, .int .u64 s1, .int .u64 s2, .int .i64 s3, .int .u8 s4, .int .i64 s5, .slice oo nn cc], .bool true]) ?_ rfl ⟨HV, (bset (bset (bset (bset (bset (bset (bset (bset (bset (bset (bset hW (by omega)) (by omega)) (by omega)) (by omega)) (by omega)) (by omega)) (by omega)) (by omega)) (by omega)) (by omega)) (by omega))⟩
      rw [results_cell_tmp1 rfl]
      go_simp
end Go.Proofs.Ytjgieaijdkmadaa.Tr
namespace Go.Proofs.Ytjgieaijdkmadaa.Tr
open Go.RowKit Go.Shelf
open Go.Proofs.Ytjgieaijdkmadaa.Lk (HasRow)
open Go.Proofs.Ytjgieaijdkmadaa.Addr (Pf okP wideN kP hasB coversB rightB hiN loN RowAt below2 below_drew below_new bset RowAt.lt RowAt.cell RowAt.frozen RowAt.below RowAt.drew RowAt.new RowAt.alloc RowAt.set1 cells2)
attribute [local go_sem] Oper.semAt_some
theorem row_keepC {W W' : World} {Q : Nat → Prop} {v : Value} {sz n : Nat} {cs : List Value} (h : HasRow W v sz n cs) (hsz : 0 < sz) (hq : InQ Q v) (hb : ∀ b o, Q b → W.heap[b]? = some o → o.isCells = true → W'.heap[b]? = some o) (hs : W.heap.size ≤ W'.heap.size) : HasRow W' v sz n cs := by
  refine ⟨h.1, ?_⟩
  rcases h.2 with h0 | ⟨a, cap, e, h1, h2, h3, h4⟩
  · exact .inl h0
  · refine .inr ⟨a, cap, e, h1, h2, fun h => ⟨(h3 h).1, Nat.lt_of_lt_of_le (h3 h).2 hs⟩, fun j hj => ?_⟩
    have hc := h4 j hj
    rw [List.getElem?_eq_getElem (by rw [h.1]; exact hj)] at hc
    have hbk : (a.add j).block = a.block := by unfold Addr.add; split <;> rfl
    obtain ⟨o, ho, hoc⟩ : ∃ o, W.heap[(a.add j).block]? = some o ∧ o.isCells = true := by
      unfold World.cell? at hc
      cases hh : W.heap[(a.add j).block]? with
      | none => simp [hh] at hc
      | some o =>
        cases o with
        | cells cur t fr => exact ⟨_, rfl, rfl⟩
        | _ => simp [hh] at hc
    rw [← h4 j hj]
    refine World.cell?_of_block ?_
    rw [hb _ o (by rw [hbk]; exact hq a _ _ e) ho hoc, ho]
theorem HasTrie.keepC : ∀ (f : Nat) {W W' : World} {Q : Nat → Prop} {six : Bool} {v : Value} {L : List Rt}, HasTrie f W Q six v L → (∀ b o, Q b → W.heap[b]? = some o → o.isCells = true → W'.heap[b]? = some o) → W.heap.size ≤ W'.heap.size → HasTrie f W' Q six v L
  | 0, _, _, _, _, _, _, h, _, _ => h
  | f + 1, W, W', Q, six, v, L, h, hb, hs => by
    obtain ⟨s, us, h1, h2, h3, h4, h5, h6⟩ := h
    exact ⟨s, us, h1, h2, h3, row_keepC h4 (by decide) h5 hb hs, h5, fun i a b => HasTrie.keepC f (h6 i a b) hb hs⟩
/-- what a round may change: two variables, and what is no cells -/
def Kw (bL bW : Nat) (W W' : World) : Prop := W.heap.size ≤ W'.heap.size ∧ ∀ b o, b ≠ bL → b ≠ bW → W.heap[b]? = some o → o.isCells = true → W'.heap[b]? = some o
theorem kw_t {bL bW : Nat} {A B C : World} (h : Kw bL bW A B) (k : Kw bL bW B C) : Kw bL bW A C := ⟨Nat.le_trans h.1 k.1, fun b o h1 h2 h3 h4 => k.2 b o h1 h2 (h.2 b o h1 h2 h3 h4) h4⟩
def encW (r : Rt) : Array Value := #[.agg #[.bool r.pf.six, .int .u64 (hiN r.pf.n : Int), .int .u64 (loN r.pf.n : Int), .int .i64 r.pf.len, .int .u8 (r.act.k : Int), .int .i64 r.act.i]]
/-- the iterator between two rounds: the node that has the address, and the row under it -/
structure WayI (B : Nat) (W : World) (six : Bool) (a g5 b2 b3 : Nat) (f : Nat) (r : Rt) (u : Value) (S : List Rt) : Prop where
  node : RowAt W g5 (nodeC r u) 103
  tr : HasTrie f W (fun b => B ≤ b ∧ b < W.heap.size ∧ b ≠ g5) six u S
  s6 : RowAt W b2 [.bool six] 4
  ad : RowAt W b3 [.int .u64 (hiN a : Int), .int .u64 (loN a : Int)] 25
  g5B : B ≤ g5
theorem rowAt_kw {bL bW : Nat} {W W' : World} {g : Nat} {cs : List Value} {t : TypeId} (h : RowAt W g cs t) (k : Kw bL bW W W') (h1 : g ≠ bL) (h2 : g ≠ bW) : RowAt W' g cs t := k.2 g _ h1 h2 h rfl
end Go.Proofs.Ytjgieaijdkmadaa.Tr
namespace Go.Proofs.Ytjgieaijdkmadaa.Tr
open Go.RowKit Go.Shelf
open Go.Proofs.Ytjgieaijdkmadaa.Lk (HasRow)
open Go.Proofs.Ytjgieaijdkmadaa.Addr (Pf okP wideN kP hasB coversB rightB hiN loN RowAt below2 below_drew below_new bset RowAt.lt RowAt.cell RowAt.frozen RowAt.below RowAt.drew RowAt.new RowAt.alloc RowAt.set1 cells2)
attribute [local go_sem] Oper.semAt_some
/-- a row of nodes opened: what over is asked of -/
theorem trie_open {f : Nat} {W : World} {Q : Nat → Prop} {six : Bool} {v : Value} {L : List Rt} (h : HasTrie f W Q six v L) : ∃ (s : List Seg) (us : List Value), us.length = s.length ∧ L = flat s ∧ Good s six ∧ HasRow W v 11 s.length (nodeCs s us) ∧ (∀ i (h : i < us.length), ∃ o n c, us[i] = .slice o n c) ∧ ∀ i (h : i < s.length) (h2 : i < us.length), HasTrie (f - 1) W Q six us[i] s[i].2 := by
  cases f with
  | zero =>
    obtain ⟨rfl, rfl⟩ := h
    exact ⟨[], [], rfl, rfl, good_nil six, Lk.hasRow_nil W 11, fun i h => by simp at h, fun i h => by simp at h⟩
  | succ f =>
    obtain ⟨s, us, h1, h2, h3, h4, h5, h6⟩ := h
    exact ⟨s, us, h1, h2, h3, h4, fun i h => trie_slice (h6 i (by omega) h), h6⟩
theorem flat_len (s : List Seg) : s.length ≤ (flat s).length := by
  induction s with
  | nil => exact Nat.le_refl _
  | cons x s ih =>
    show _ ≤ ((x.1 :: x.2) ++ flat s).length
    rw [List.length_append, List.length_cons, List.length_cons]
    omega
/-- between two rounds of the iterator -/
def WS (B : Nat) (W : World) (six : Bool) (a g5 b2 b3 : Nat) (full pre : List Rt) (is : Bool) : Prop :=
  (∃ cs, cs.length = 11 ∧ RowAt W g5 cs 103) ∧ (is = false → full = pre) ∧ (is = true → ∃ f r o n c S, WayI B W six a g5 b2 b3 f r (.slice o n c) S ∧ S.length ≤ 256 ∧ full = pre ++ (r :: S.filter (hasR six a)))
/-- what over's answer means for the way -/
theorem ov_way {s : List Seg} {us : List Value} {six : Bool} {a : Nat} {e : Ending} (hg : Good s six) (h : OvR s us six a e) : ((flat s).filter (hasR six a) = [] ∧ e = .returned (.tuple #[zeroN, .bool false])) ∨ ∃ (i : Nat) (h1 : i < s.length) (h2 : i < us.length), (flat s).filter (hasR six a) = s[i].1 :: s[i].2.filter (hasR six a) ∧ e = .returned (.tuple #[nodeV s[i].1 us[i], .bool true]) := by
  obtain ⟨k, hk, ⟨h1, h2⟩ | ⟨h1, h2, h3, h4, h5⟩⟩ := h
  · exact .inl ⟨over_none hg hk h1, h2⟩
  · exact .inr ⟨k - 1, h1, h2, over_some hg hk h3 h1 h4, h5⟩
end Go.Proofs.Ytjgieaijdkmadaa.Tr
namespace Go.Proofs.Ytjgieaijdkmadaa.Rng
open Go.RowKit
/-- what says nothing of blocks from B on -/
def Held {β : Type} (B : Nat) (J : β → World → Prop) : Prop := ∀ s W W' row, J s W → W.grownBy W' row → (∀ r, row = some r → B ≤ r) → J s W'
/-- the iterator's word -/
def Tells {α : Type} (n : Nat) (P : Program) (g : Nat) (lb : Array Value) (encs : α → Array Value) (Kp : World → World → Prop) (S : List α → Prop) (N : Nat) (w : World) : Prop :=
  ∀ (l : Nat) (J : List α → World → Prop) (W : World), Below w.heap.size w W → Held W.heap.size J →
    (∀ pre x W1, J pre W1 → pre.length < N → YieldAt Fence.wide (n - 1) P l (encs x) W1 fun e W' => e = .returned (.bool true) ∧ J (pre ++ [x]) W' ∧ Kp W1 W') →
    J [] W → CallsIn Fence.wide n P g (#[.func (.yield l) #[] #[]] ++ lb) W fun e W' => (∃ v, e = .returned v) ∧ ∃ xs, S xs ∧ J xs W'
theorem Held.put {β : Type} {B : Nat} {J : β → World → Prop} (h : Held B J) {s : β} {W : World} {l : Nat} (o : Obj) (hs : J s W) (hl : B ≤ l) : J s (W.putObj l o) :=
  h s W _ (some l) hs (grownBy_putObj' W l o) (fun r e => by cases e; exact hl)
theorem range_cells {α : Type} {n : Nat} {P : Program} {g : Operand} {ps : Array Tmp} {assign body : Code} {Q : Exit → Act → World → Prop} {a : Act} {w : World}
    (h1 : 1 ≤ n) {gf : Nat} {lb : Array Value} (hg : a.eval g = .func (.func gf) #[] lb) (eg : ∀ args w, (callFunc gf args).run P w = .ok (.enter gf args) w)
    {encs : α → Array Value} {Kp : World → World → Prop} {S : List α → Prop} {N : Nat} (hseq : Tells (n - 1) P gf lb encs Kp S N w)
    (hKt : ∀ {A B C : World}, Kp A B → Kp B C → Kp A C) (hKb : ∀ (W : World) (l : Nat) (o o' : Obj), W.heap[l]? = some o → o.isCells = false → Kp W (W.putObj l o')) (hps : ∀ x, (encs x).size = ps.size)
    (I : List α → World → Prop) (hI : Held w.heap.size I) (h0 : I [] w) (Ax : α → Act → World → Prop) (hAx : ∀ x a' W l o o', Ax x a' W → W.heap[l]? = some o → o.isCells = false → Ax x a' (W.putObj l o'))
    (hassign : ∀ (l : Nat) (pre : List α) (x : α) (W : World) (K : Act → World → Prop), I pre W → (∀ a' W', KeepsFrom w.heap.size W W' → Kp W W' → I pre W' → Ax x a' W' → K a' W') →
      assign.wpIn (Fence.wide.inRound l) (n - 1 - 1) P (Exit.then K (fun _ _ _ => False)) { tmps := (ps.zip (encs x)).foldl (fun t (p, v) => t.setIfInBounds p v) a.tmps, defers := [] } W)
    (hbody : ∀ (l : Nat) (pre : List α) (x : α) (a' : Act) (W : World), I pre W → Ax x a' W → body.wpIn (Fence.wide.inRound l) (n - 1 - 1) P (fun e _ W' => e = .normal ∧ KeepsFrom w.heap.size W W' ∧ Kp W W' ∧ I (pre ++ [x]) W') a' W)
    (hdone : ∀ (D : Nat) (xs : List α) (W : World), w.heap.size ≤ D → S xs → I xs W → W.heap[D]? = some (.deferred (some [])) → Q .normal { a with defers := { target := .collected D, args := #[] } :: a.defers } W) :
    (Code.rangeFunc g ps assign body).wpIn Fence.wide n P Q a w := by
  refine wpIn_rangeFunc fun fn hfn => ?_
  obtain ⟨rc, hrc⟩ : ∃ rc : LoopState → Loop, rc = fun st => { state := st, pending := none, fn, tmps := a.tmps, params := ps, assign, body, defers := w.heap.size } := ⟨_, rfl⟩
  obtain ⟨D, hD⟩ : ∃ D, D = w.heap.size := ⟨_, rfl⟩
  obtain ⟨V, hV⟩ : ∃ V, V = (w.alloc (.deferred (some []))).alloc (.loop (rc .ready)) := ⟨_, rfl⟩
  have hVs : V.heap.size = D + 2 := by rw [hV, World.size_alloc, World.size_alloc, hD]
  have hVr : V.heap[D + 1]? = some (.loop (rc .ready)) := by
    have := World.alloc_heap_new (w.alloc (.deferred (some []))) (.loop (rc .ready))
    rw [World.size_alloc, ← hV, ← hD] at this
    exact this
  have hVd : V.heap[D]? = some (.deferred (some [])) := by rw [hV, hD]; exact (Below.heap_alloc _ _ _ (by simp)).trans (World.alloc_heap_new w _)
  have hVb : Below w.heap.size w V := by rw [hV]; exact ((Below.refl _ w).alloc (Nat.le_refl _) _).alloc (by simp) _
  have hVI : I [] V := by
    rw [hV]
    exact hI _ _ _ none (hI _ _ _ none h0 (World.grownBy_alloc _ _ none) (fun r e => by cases e)) (World.grownBy_alloc _ _ none) (fun r e => by cases e)
  refine ⟨D + 1, [{ target := .collected D, args := #[] }], V, { target := .fn (.func gf) lb, args := #[.func (.yield (D + 1)) #[] #[]] }, V, gf, #[.func (.yield (D + 1)) #[] #[]] ++ lb, V, ?_, ?_, fun _ _ => trivial, ?_, fun _ => h1, ?_⟩
  · rw [hV, hrc, hD]; exact run_enterLoop_outer _ _ _ _ _
  · simp only [resolve, hg]
    simp [go_sem]
  · simp [invoke, go_sem, eg]
  refine (hseq (D + 1) (fun pre W => I pre W ∧ W.heap[D + 1]? = some (.loop (rc .ready)) ∧ W.heap[D]? = some (.deferred (some []))) V hVb ?_ ?_ ⟨hVI, hVr, hVd⟩).mono ?_
  · intro s A B row hs hgr hr
    have keep : ∀ k o, k < D + 2 → A.heap[k]? = some o → B.heap[k]? = some o := fun k o hk ho => (hgr.block k (Array.getElem?_eq_some_iff.1 ho).1 (fun e => by have := hr k e.symm; omega)).trans ho
    exact ⟨hI s A B row hs.1 hgr (fun r e => by have := hr r e; omega), keep _ _ (by omega) hs.2.1, keep _ _ (by omega) hs.2.2⟩
  · rintro pre x W ⟨hi, hl, hk⟩ hlen
    have hy := run_yield (P := P) (args := encs x) hl (by rw [hrc]; exact hps x)
    rw [hrc] at hy
    refine ⟨fn, _, assign, body, hy, roundIn_of_wpIn hfn (hassign _ pre x W _ hi ?_)⟩
    clear hy
    intro a' Wa kf kp ia ax
    have la := kf.same _ _ (by omega) hl rfl
    have ka := kf.same _ _ (by omega) hk rfl
    refine ⟨_, run_beginRound la (by rw [hrc]), ?_⟩
    obtain ⟨Wb, hWb⟩ : ∃ Wb, Wb = Wa.putObj (D + 1) (.loop { rc .ready with state := .busy }) := ⟨_, rfl⟩
    have lb2 : Wb.heap[D + 1]? = some (.loop { rc .ready with state := .busy }) := by rw [hWb]; exact World.putObj_heap_same (Array.getElem?_eq_some_iff.1 la).1
    have kb2 : Wb.heap[D]? = some (.deferred (some [])) := by rw [hWb]; exact (World.putObj_heap_other (by omega)).trans ka
    have kpb : Kp W Wb := by rw [hWb]; exact hKt kp (hKb _ _ _ _ la rfl)
    have ib : I pre Wb := by rw [hWb]; exact hI.put _ ia (by omega)
    have axb : Ax x a' Wb := by rw [hWb]; exact hAx _ _ _ _ _ _ ax la rfl
    rw [← hWb]
    refine wpIn_mono (hbody _ pre x a' Wb ib axb) ?_
    rintro e a3 W3 ⟨rfl, kf3, kp3, i3⟩
    have l3 := kf3.same _ _ (by omega) lb2 rfl
    have k3 := kf3.same _ _ (by omega) kb2 rfl
    have hend := run_endRound (P := P) none l3
    refine ⟨_, _, hend, rfl, ⟨hI.put _ i3 (by omega), ?_, (World.putObj_heap_other (by omega)).trans k3⟩, hKt (hKt kpb kp3) (hKb _ _ _ _ l3 rfl)⟩
    rw [hrc]
    exact World.putObj_heap_same (Array.getElem?_eq_some_iff.1 l3).1
  · rintro e W2 ⟨⟨v, rfl⟩, xs, hS, hi, hl, hk⟩
    refine ⟨none, _, by have := run_endLoop (P := P) hl (by rw [hrc]; simp); rw [hrc] at this; exact this, ?_⟩
    exact hdone D xs _ (by omega) hS (hI.put _ hi (by omega)) ((World.putObj_heap_other (by omega)).trans hk)
end Go.Proofs.Ytjgieaijdkmadaa.Rng
namespace Go.Proofs.Ytjgieaijdkmadaa.Tr
open Go.RowKit Go.Shelf
open Go.Proofs.Ytjgieaijdkmadaa.Rng
open Go.Proofs.Ytjgieaijdkmadaa.Lk (HasRow)
open Go.Proofs.Ytjgieaijdkmadaa.Addr (Pf okP wideN kP hasB coversB rightB hiN loN RowAt below2 below_drew below_new bset RowAt.lt RowAt.cell RowAt.frozen RowAt.below RowAt.drew RowAt.new RowAt.alloc RowAt.set1 cells2)
attribute [local go_sem] Oper.semAt_some
theorem flat_part {s : List Seg} {i : Nat} (h : i < s.length) : s[i].2.length ≤ (flat s).length := by
  have h1 : s[i].2.Sublist (flat s) := (List.sublist_cons_self s[i].1 s[i].2).trans (by
    unfold flat
    exact List.sublist_flatten_of_mem (List.mem_map.2 ⟨s[i], List.getElem_mem h, rfl⟩))
  exact h1.length_le
theorem step_over {f : Nat} {W : World} {Q : Nat → Prop} {six : Bool} {v : Value} {L : List Rt} {a : Nat} (h : HasTrie f W Q six v L) (hQ : ∀ b, Q b → b < W.heap.size) (ha : a < 2 ^ 128) (hl : L.length ≤ 256) :
    (L.filter (hasR six a) = [] → Calls Try.prog 72 #[v, .bool six, .agg #[.int .u64 (hiN a : Int), .int .u64 (loN a : Int)]] W fun e w' => e = .returned (.tuple #[zeroN, .bool false]) ∧ Below W.heap.size W w') ∧
    (L.filter (hasR six a) ≠ [] → Calls Try.prog 72 #[v, .bool six, .agg #[.int .u64 (hiN a : Int), .int .u64 (loN a : Int)]] W fun e w' => ∃ r o n c S, e = .returned (.tuple #[nodeV r (.slice o n c), .bool true]) ∧ L.filter (hasR six a) = r :: S.filter (hasR six a) ∧ S.length ≤ 256 ∧ HasTrie (f - 1) w' Q six (.slice o n c) S ∧ Below W.heap.size W w') := by
  obtain ⟨s, us, h1, rfl, h3, h4, h5, h6⟩ := trie_open h
  have hs : s.length ≤ 256 := Nat.le_trans (flat_len s) hl
  have co := over_any six W h4 h1 h5 h3 ha hs
  constructor
  · intro hn
    refine co.mono ?_
    rintro e w' ⟨ho, hb⟩
    rcases ov_way h3 ho with ⟨_, he⟩ | ⟨i, _, _, hf, _⟩
    · exact ⟨he, hb⟩
    · rw [hn] at hf; cases hf
  · intro hn
    refine co.mono ?_
    rintro e w' ⟨ho, hb⟩
    rcases ov_way h3 ho with ⟨hf, _⟩ | ⟨i, hi, hi2, hf, he⟩
    · exact absurd hf hn
    · obtain ⟨o, n, c, hu⟩ := h5 i hi2
      have ht := h6 i hi hi2
      rw [hu] at he ht
      exact ⟨s[i].1, o, n, c, s[i].2, he, hf, Nat.le_trans (flat_part hi) hl, ht.below hQ hb, hb⟩
theorem grown_b {W W' : World} (g : Nat) (h : Below W.heap.size W W') : W.grownBy W' (some g) := ⟨h.os, h.tape, h.output, h.size, fun k hk _ => h.block k hk⟩
theorem grown_s {W W' : World} {g : Nat} (h : W.grownBy W' (some g)) (k : Nat) (v : Value) : W.grownBy (W'.setCell ⟨g, k, none⟩ v) (some g) :=
  ⟨h.os, h.tape, h.output, by simp; exact h.size, fun j hj hn => (heap_setCell_other W' ⟨g, k, none⟩ j v (fun e => hn (by simp at e; rw [e]))).trans (h.block j hj hn)⟩
/-- the eleven cells of a node, stored anew -/
abbrev putN (W : World) (g : Nat) (s0 : Bool) (s1 s2 s3 : Int) (z0 : Bool) (z1 z2 z3 s4 s5 : Int) (u : Value) : World := ((((((((((W.setCell ⟨g, 0, none⟩ (.bool s0)).setCell ⟨g, 1, none⟩ (.int .u64 s1)).setCell ⟨g, 2, none⟩ (.int .u64 s2)).setCell ⟨g, 3, none⟩ (.int .i64 s3)).setCell ⟨g, 4, none⟩ (.bool z0)).setCell ⟨g, 5, none⟩ (.int .u64 z1)).setCell ⟨g, 6, none⟩ (.int .u64 z2)).setCell ⟨g, 7, none⟩ (.int .i64 z3)).setCell ⟨g, 8, none⟩ (.int .u8 s4)).setCell ⟨g, 9, none⟩ (.int .i64 s5)).setCell ⟨g, 10, none⟩ u
theorem putN_row {W : World} {g : Nat} {cs : List Value} {t : TypeId} (h : RowAt W g cs t) (hl : cs.length = 11) (s0 : Bool) (s1 s2 s3 : Int) (z0 : Bool) (z1 z2 z3 s4 s5 : Int) (u : Value) : RowAt (putN W g s0 s1 s2 s3 z0 z1 z2 z3 s4 s5 u) g [.bool s0, .int .u64 s1, .int .u64 s2, .int .i64 s3, .bool z0, .int .u64 z1, .int .u64 z2, .int .i64 z3, .int .u8 s4, .int .i64 s5, u] t := by
  match cs, hl with
  | [c0, c1, c2, c3, c4, c5, c6, c7, c8, c9, c10], _ => exact ((((((((((h.set1 0 _).set1 1 _).set1 2 _).set1 3 _).set1 4 _).set1 5 _).set1 6 _).set1 7 _).set1 8 _).set1 9 _).set1 10 _
theorem putN_grown {W0 W : World} {g : Nat} (h : W0.grownBy W (some g)) (s0 : Bool) (s1 s2 s3 : Int) (z0 : Bool) (z1 z2 z3 s4 s5 : Int) (u : Value) : W0.grownBy (putN W g s0 s1 s2 s3 z0 z1 z2 z3 s4 s5 u) (some g) :=
  grown_s (grown_s (grown_s (grown_s (grown_s (grown_s (grown_s (grown_s (grown_s (grown_s (grown_s h 0 _) 1 _) 2 _) 3 _) 4 _) 5 _) 6 _) 7 _) 8 _) 9 _) 10 _
theorem row_other {W W' : World} {g k : Nat} {cs : List Value} {t : TypeId} (h : RowAt W k cs t) (hg : W.grownBy W' (some g)) (hne : k ≠ g) : RowAt W' k cs t := (hg.block k (RowAt.lt h) (by intro e; injection e with e; exact hne e)).trans h
end Go.Proofs.Ytjgieaijdkmadaa.Tr
namespace Go.Proofs.Ytjgieaijdkmadaa.Tr
open Go.RowKit Go.Shelf
open Go.Proofs.Ytjgieaijdkmadaa.Rng
open Go.Proofs.Ytjgieaijdkmadaa.Lk (HasRow)
open Go.Proofs.Ytjgieaijdkmadaa.Addr (Pf okP wideN kP hasB coversB rightB hiN loN RowAt below2 below_drew below_new bset RowAt.lt RowAt.cell RowAt.frozen RowAt.below RowAt.drew RowAt.new RowAt.alloc RowAt.set1 cells2)
attribute [local go_sem] Oper.semAt_some
/-- the iterator's state with a node -/
theorem ws_true {B a g5 b2 b3 : Nat} {w3 wc : World} {six : Bool} {full pre : List Rt} {f : Nat} {r : Rt} {o : Option Addr} {n c : Nat} {S : List Rt} {Q : Nat → Prop} (hrow : RowAt wc g5 (nodeC r (.slice o n c)) 103) (ht : HasTrie f w3 Q six (.slice o n c) S) (hQ : ∀ b, Q b → B ≤ b ∧ b < wc.heap.size ∧ b ≠ g5 ∧ wc.heap[b]? = w3.heap[b]?) (hsz : w3.heap.size ≤ wc.heap.size) (h2 : RowAt wc b2 [.bool six] 4) (h3 : RowAt wc b3 [.int .u64 (hiN a : Int), .int .u64 (loN a : Int)] 25) (hg : B ≤ g5) (hS : S.length ≤ 256) (hfull : full = pre ++ (r :: S.filter (hasR six a))) : WS B wc six a g5 b2 b3 full pre true :=
  ⟨⟨_, rfl, hrow⟩, (fun h => by cases h), fun _ => ⟨f, r, o, n, c, S, ⟨hrow, (HasTrie.keepQ f ht (fun b hb => (hQ b hb).2.2.2) hsz).mono _ (fun b hb => ⟨(hQ b hb).1, (hQ b hb).2.1, (hQ b hb).2.2.1⟩), h2, h3, hg⟩, hS, hfull⟩⟩
theorem ws_false {B a g5 b2 b3 : Nat} {wc : World} {six : Bool} {full pre : List Rt} {cs : List Value} (hrow : RowAt wc g5 cs 103) (hc : cs.length = 11) (hfull : full = pre) : WS B wc six a g5 b2 b3 full pre false :=
  ⟨⟨cs, hc, hrow⟩, fun _ => hfull, (fun h => by cases h)⟩
/-- the state behind the first region -/
structure W0 (B : Nat) (W wc : World) (six : Bool) (a g5 b2 b3 : Nat) (full : List Rt) (is : Bool) : Prop where
  bl : Below W.heap.size W wc
  ge : W.heap.size ≤ g5
  ws : WS B wc six a g5 b2 b3 full [] is
theorem rka {W W' : World} {cs : List Value} {t : TypeId} (h : Below (W.alloc (.cells cs.toArray t)).heap.size (W.alloc (.cells cs.toArray t)) W') : RowAt W' W.heap.size cs t := (RowAt.new W cs t).below h
theorem rkb {W W' : World} {cs : List Value} {t : TypeId} (h : Below (W.alloc (.cells cs.toArray t)).drew.heap.size (W.alloc (.cells cs.toArray t)).drew W') : RowAt W' W.heap.size cs t := (RowAt.new W cs t).drew.below h
theorem rkc {W W' : World} {cs : List Value} {t : TypeId} (h : Below (W.drew.alloc (.cells cs.toArray t)).heap.size (W.drew.alloc (.cells cs.toArray t)) W') : RowAt W' W.heap.size cs t := (RowAt.new W.drew cs t).below h
theorem bputN {B0 : Nat} {W0 W : World} {g : Nat} (h : Below B0 W0 W) (hg : B0 ≤ g) (s0 : Bool) (s1 s2 s3 : Int) (z0 : Bool) (z1 z2 z3 s4 s5 : Int) (u : Value) : Below B0 W0 (putN W g s0 s1 s2 s3 z0 z1 z2 z3 s4 s5 u) :=
  bset (bset (bset (bset (bset (bset (bset (bset (bset (bset (bset h hg) hg) hg) hg) hg) hg) hg) hg) hg) hg) hg
theorem sputN (W : World) (g : Nat) (s0 : Bool) (s1 s2 s3 : Int) (z0 : Bool) (z1 z2 z3 s4 s5 : Int) (u : Value) : (putN W g s0 s1 s2 s3 z0 z1 z2 z3 s4 s5 u).heap.size = W.heap.size := by unfold putN; simp
theorem w0_fn {B a b2 b3 : Nat} {W w3 : World} {six : Bool} {full : List Rt} (hbA : Below W.heap.size W w3) (hfe : full = []) : W0 B W (w3.alloc (.cells #[.bool false, .int .u64 0, .int .u64 0, .int .i64 0, .bool false, .int .u64 0, .int .u64 0, .int .i64 0, .int .u8 0, .int .i64 0, .slice none 0 0] 103)) six a w3.heap.size b2 b3 full false :=
  ⟨below_new hbA _, hbA.size, ws_false (RowAt.new w3 [_, _, _, _, _, _, _, _, _, _, _] _) rfl hfe⟩
theorem w0_fa {B a b2 b3 : Nat} {W w3 : World} {six : Bool} {full : List Rt} (hbA : Below W.heap.size W w3) (hE : RowAt w3 W.heap.size [.bool false, .int .u64 0, .int .u64 0, .int .i64 0, .bool false, .int .u64 0, .int .u64 0, .int .i64 0, .int .u8 0, .int .i64 0, .slice none 0 0] 103) (hfe : full = []) : W0 B W ((((((((((((w3.setCell ⟨W.heap.size, 0, none⟩ (.bool false)).setCell ⟨W.heap.size, 1, none⟩ (.int .u64 0)).setCell ⟨W.heap.size, 2, none⟩ (.int .u64 0)).setCell ⟨W.heap.size, 3, none⟩ (.int .i64 0)).setCell ⟨W.heap.size, 4, none⟩ (.bool false)).setCell ⟨W.heap.size, 5, none⟩ (.int .u64 0)).setCell ⟨W.heap.size, 6, none⟩ (.int .u64 0)).setCell ⟨W.heap.size, 7, none⟩ (.int .i64 0)).setCell ⟨W.heap.size, 8, none⟩ (.int .u8 0)).setCell ⟨W.heap.size, 9, none⟩ (.int .i64 0)).setCell ⟨W.heap.size, 10, none⟩ (.slice none 0 0))) six a W.heap.size b2 b3 full false :=
  ⟨bputN hbA (Nat.le_refl _) _ _ _ _ _ _ _ _ _ _ _, Nat.le_refl _, ws_false (putN_row hE rfl _ _ _ _ _ _ _ _ _ _ _) rfl hfe⟩
theorem w0_tn {B a b2 b3 : Nat} {W w3 : World} {six : Bool} {full : List Rt} {r : Rt} {o : Option Addr} {n c : Nat} {S : List Rt} (hbA : Below W.heap.size W w3) (ht3 : HasTrie 256 w3 (fun b => B ≤ b ∧ b < W.heap.size) six (.slice o n c) S) (HB2 : ∀ V : World, Below W.heap.size W V → RowAt V b2 [.bool six] 4 ∧ RowAt V b3 [.int .u64 (hiN a : Int), .int .u64 (loN a : Int)] 25) (hBW : B ≤ W.heap.size) (hSl : S.length ≤ 256) (hfr : full = r :: S.filter (hasR six a)) : W0 B W (w3.alloc (.cells #[.bool r.pf.six, .int .u64 (hiN r.pf.n : Int), .int .u64 (loN r.pf.n : Int), .int .i64 r.pf.len, .bool r.pf.six, .int .u64 (hiN r.pf.n : Int), .int .u64 (loN r.pf.n : Int), .int .i64 r.pf.len, .int .u8 (r.act.k : Int), .int .i64 r.act.i, .slice o n c] 103)) six a w3.heap.size b2 b3 full true :=
  ⟨below_new hbA _, hbA.size, ws_true (r := r) (RowAt.new w3 [_, _, _, _, _, _, _, _, _, _, _] _) ht3 (fun b hb => ⟨hb.1, by have h1 := hb.2; have h2 := hbA.size; simp; omega, by have h1 := hb.2; have h2 := hbA.size; omega, (heap_alloc_old w3 _ (Nat.lt_of_lt_of_le hb.2 hbA.size))⟩) (by simp) (HB2 _ (below_new hbA _)).1 (HB2 _ (below_new hbA _)).2 (Nat.le_trans hBW hbA.size) hSl hfr⟩
theorem w0_ta {B a b2 b3 : Nat} {W w3 : World} {six : Bool} {full : List Rt} {r : Rt} {o : Option Addr} {n c : Nat} {S : List Rt} (hbA : Below W.heap.size W w3) (hE : RowAt w3 W.heap.size [.bool false, .int .u64 0, .int .u64 0, .int .i64 0, .bool false, .int .u64 0, .int .u64 0, .int .i64 0, .int .u8 0, .int .i64 0, .slice none 0 0] 103) (ht3 : HasTrie 256 w3 (fun b => B ≤ b ∧ b < W.heap.size) six (.slice o n c) S) (HB2 : ∀ V : World, Below W.heap.size W V → RowAt V b2 [.bool six] 4 ∧ RowAt V b3 [.int .u64 (hiN a : Int), .int .u64 (loN a : Int)] 25) (hBW : B ≤ W.heap.size) (hSl : S.length ≤ 256) (hfr : full = r :: S.filter (hasR six a)) : W0 B W ((((((((((((w3.setCell ⟨W.heap.size, 0, none⟩ (.bool r.pf.six)).setCell ⟨W.heap.size, 1, none⟩ (.int .u64 (hiN r.pf.n : Int))).setCell ⟨W.heap.size, 2, none⟩ (.int .u64 (loN r.pf.n : Int))).setCell ⟨W.heap.size, 3, none⟩ (.int .i64 r.pf.len)).setCell ⟨W.heap.size, 4, none⟩ (.bool r.pf.six)).setCell ⟨W.heap.size, 5, none⟩ (.int .u64 (hiN r.pf.n : Int))).setCell ⟨W.heap.size, 6, none⟩ (.int .u64 (loN r.pf.n : Int))).setCell ⟨W.heap.size, 7, none⟩ (.int .i64 r.pf.len)).setCell ⟨W.heap.size, 8, none⟩ (.int .u8 (r.act.k : Int))).setCell ⟨W.heap.size, 9, none⟩ (.int .i64 r.act.i)).setCell ⟨W.heap.size, 10, none⟩ (.slice o n c))) six a W.heap.size b2 b3 full true :=
  ⟨bputN hbA (Nat.le_refl _) _ _ _ _ _ _ _ _ _ _ _, Nat.le_refl _, ws_true (r := r) (putN_row hE rfl _ _ _ _ _ _ _ _ _ _ _) ht3 (fun b hb => ⟨hb.1, Nat.lt_of_lt_of_le (Nat.lt_of_lt_of_le hb.2 hbA.size) (Nat.le_of_eq (sputN w3 W.heap.size r.pf.six (hiN r.pf.n : Int) (loN r.pf.n : Int) r.pf.len r.pf.six (hiN r.pf.n : Int) (loN r.pf.n : Int) r.pf.len (r.act.k : Int) r.act.i (.slice o n c)).symm), by have h1 := hb.2; omega, ((putN_grown (World.grownBy.refl w3 _) _ _ _ _ _ _ _ _ _ _ _).block b (Nat.lt_of_lt_of_le hb.2 hbA.size) (fun e => by injection e with e; have := hb.2; omega))⟩) (Nat.le_of_eq (sputN w3 W.heap.size r.pf.six (hiN r.pf.n : Int) (loN r.pf.n : Int) r.pf.len r.pf.six (hiN r.pf.n : Int) (loN r.pf.n : Int) r.pf.len (r.act.k : Int) r.act.i (.slice o n c)).symm) (HB2 _ (bputN hbA (Nat.le_refl _) _ _ _ _ _ _ _ _ _ _ _)).1 (HB2 _ (bputN hbA (Nat.le_refl _) _ _ _ _ _ _ _ _ _ _ _)).2 hBW hSl hfr⟩
set_option maxHeartbeats 16000000 in
set_option maxRecDepth 20000 in
theorem way1_tells {B g : Nat} {u0 u1 : Value} {K0 K1 : List Rt} (six : Bool) (a n b1 b2 b3 bL bW : Nat) (w : World) (hT : TrieAt B w g u0 u1 257 K0 K1) (h1 : RowAt w b1 [.pointer (some ⟨g, 0, none⟩)] 66) (h2 : RowAt w b2 [.bool six] 4) (h3 : RowAt w b3 [.int .u64 (hiN a : Int), .int .u64 (loN a : Int)] 25)
    (hL : bL < B) (hW : bW < B) (hb2 : B ≤ b2) (hb3 : B ≤ b3) (ha : a < 2 ^ 128) (hl : (if six then K1 else K0).length ≤ 256) :
    Tells n Try.prog 71 #[.pointer (some ⟨b1, 0, none⟩), .pointer (some ⟨b2, 0, none⟩), .pointer (some ⟨b3, 0, none⟩)] encW (Kw bL bW) (fun xs => xs = (if six then K1 else K0).filter (hasR six a)) ((if six then K1 else K0).filter (hasR six a)).length w := by
  intro lp J W hWb hJ hY h0
  have hT' := hT.below hWb
  have r1 := h1.below hWb
  have r2 := h2.below hWb
  have r3 := h3.below hWb
  obtain ⟨uK, hK⟩ : ∃ uK, uK = if six then u1 else u0 := ⟨_, rfl⟩
  obtain ⟨K, hKK⟩ : ∃ K, K = if six then K1 else K0 := ⟨_, rfl⟩
  have htr : HasTrie 257 W (fun b => B ≤ b ∧ b < W.heap.size) six uK K := by
    rw [hK, hKK]
    cases six with
    | true => exact hT'.t1
    | false => exact hT'.t0
  have hcell : W.cell? ⟨g, kindN six, none⟩ = some uK := by
    rw [hK]
    cases six with
    | true => exact hT'.row.cell 1
    | false => exact hT'.row.cell 0
  have ck := fun W => kind_any six W
  have hkd : (kindN six : Int) = 0 ∨ (kindN six : Int) = 1 := by cases six <;> simp [kindN]
  rw [← hKK] at hl hY ⊢
  obtain ⟨full, hfull⟩ : ∃ full, full = K.filter (hasR six a) := ⟨_, rfl⟩
  rw [← hfull] at hY ⊢
  have hgl : g < W.heap.size := hT'.row.lt
  obtain ⟨oK, nK, cK, rfl⟩ := trie_slice htr
  have HW : Hid (∀ V : World, Below W.heap.size W V → HasTrie 257 V (fun b => B ≤ b ∧ b < W.heap.size) six (.slice oK nK cK) K) := fun V hb => htr.below (fun b hb => hb.2) hb
  have HB : Hid (∀ V : World, Below W.heap.size W V → RowAt V b1 [.pointer (some ⟨g, 0, none⟩)] 66 ∧ RowAt V b2 [.bool six] 4 ∧ RowAt V b3 [.int .u64 (hiN a : Int), .int .u64 (loN a : Int)] 25 ∧ V.cell? ⟨g, kindN six, none⟩ = some (.slice oK nK cK)) := fun V hb => ⟨r1.below hb, r2.below hb, r3.below hb, (hb.cell (p := ⟨g, kindN six, none⟩) hgl).trans hcell⟩
  have HSO : Hid (∀ V : World, Below W.heap.size W V → (full = [] → Calls Try.prog 72 #[.slice oK nK cK, .bool six, .agg #[.int .u64 (hiN a : Int), .int .u64 (loN a : Int)]] V fun e w' => e = .returned (.tuple #[zeroN, .bool false]) ∧ Below V.heap.size V w') ∧ (full ≠ [] → Calls Try.prog 72 #[.slice oK nK cK, .bool six, .agg #[.int .u64 (hiN a : Int), .int .u64 (loN a : Int)]] V fun e w' => ∃ r o n c S, e = .returned (.tuple #[nodeV r (.slice o n c), .bool true]) ∧ full = r :: S.filter (hasR six a) ∧ S.length ≤ 256 ∧ HasTrie 256 w' (fun b => B ≤ b ∧ b < W.heap.size) six (.slice o n c) S ∧ Below V.heap.size V w')) := fun V hb => by
    rw [hfull]
    exact step_over (HW.out V hb) (fun b hq => Nat.lt_of_lt_of_le hq.2 hb.size) ha hl
  have hs2 : b2 < W.heap.size := r2.lt
  have hs3 : b3 < W.heap.size := r3.lt
  clear hT hT' h1 h2 h3 htr hcell hfull hKK hK r1 r2 r3 HW
  show CallsIn Fence.wide n Try.prog 71 #[.func (.yield lp) #[] #[], .pointer (some ⟨b1, 0, none⟩), .pointer (some ⟨b2, 0, none⟩), .pointer (some ⟨b3, 0, none⟩)] W _
  refine callsIn_of_wp Try.func71 rfl trivial ?_ rfl
  simp only [Try.ntmps71, List.size_toArray, List.length_cons, List.length_nil, Nat.reduceAdd, Nat.reduceSub, Array.replicate_succ, Array.replicate_zero, List.push_toArray, List.append_toArray, List.nil_append, List.cons_append]
  have hk0 : (0 : Int) ≤ (kindN six : Int) := by omega
  have hk2 : (kindN six : Int) < 2 := by omega
  obtain ⟨z1, hz1⟩ : ∃ z1, z1 = (hiN a : Int) := ⟨_, rfl⟩
  obtain ⟨z2, hz2⟩ : ∃ z2, z2 = (loN a : Int) := ⟨_, rfl⟩
  rw [← hz1, ← hz2] at HSO HB
  have HZ : Hid (z1 = (hiN a : Int) ∧ z2 = (loN a : Int)) := ⟨hz1, hz2⟩
  generalize kindN six = kd at *
  have HSK : Hid (∀ V : World, Below W.heap.size W V → V.cell? ⟨b1, 0, none⟩ = some (.pointer (some ⟨g, 0, none⟩)) ∧ V.cell? ⟨b2, 0, none⟩ = some (.bool six) ∧ V.cell? ⟨b3, 0, none⟩ = some (.int .u64 z1) ∧ V.cell? ⟨b3, 1, none⟩ = some (.int .u64 z2) ∧ V.cell? ⟨g, kd, none⟩ = some (.slice oK nK cK)) := fun V hb => ⟨(HB.out V hb).1.cell 0, (HB.out V hb).2.1.cell 0, (HB.out V hb).2.2.1.cell 0, (HB.out V hb).2.2.1.cell 1, (HB.out V hb).2.2.2⟩
  have HB2 : Hid (∀ V : World, Below W.heap.size W V → RowAt V b2 [.bool six] 4 ∧ RowAt V b3 [.int .u64 (hiN a : Int), .int .u64 (loN a : Int)] 25) := fun V hb => ⟨(HB.out V hb).2.1, by rw [← HZ.out.1, ← HZ.out.2]; exact (HB.out V hb).2.2.1⟩
  have HBW : Hid (B ≤ W.heap.size) := Nat.le_trans hb2 (Nat.le_of_lt hs2)
  clear hz1 hz2 hkd
  have hzn : zeroN = .agg #[.bool false, .int .u64 0, .int .u64 0, .int .i64 0, .bool false, .int .u64 0, .int .u64 0, .int .i64 0, .int .u8 0, .int .i64 0, .slice none 0 0] := rfl
  rw [hzn] at HSO
  unfold nodeV at HSO
  clear hzn
  gi_wp2_with fail
  refine wpIn_wide.2 ?_
  go_cut [5, 6] (fun d5 d6 wc => ∃ (g5 : Nat) (is : Bool), d5 = .pointer (some ⟨g5, 0, none⟩) ∧ d6 = .bool is ∧ Hid (W0 B W wc six a g5 b2 b3 full is))
  case first =>
    by_cases hfe : full = []
    · have hbA : Below W.heap.size W W := Below.refl _ _
      go_region_held3 (fun V => V.cell? ⟨b1, 0, none⟩ = some (.pointer (some ⟨g, 0, none⟩)) ∧ V.cell? ⟨b2, 0, none⟩ = some (.bool six) ∧ V.cell? ⟨b3, 0, none⟩ = some (.int .u64 z1) ∧ V.cell? ⟨b3, 1, none⟩ = some (.int .u64 z2) ∧ V.cell? ⟨g, kd, none⟩ = some (.slice oK nK cK))
        (first
          | (refine HSK.out _ ?_
             repeat' (first | with_reducible exact hbA | with_reducible apply below_drew | with_reducible apply below_new | with_reducible refine bset ?_ (by have := hbA.size; first | omega | (simp; omega)))))
        (first
          | (go_at_call 68; with_reducible refine (ck _).mono ?_; rintro e w2 ⟨rfl, rfl⟩)
          | (go_at_call 72
             refine (((HSO.out _ (by repeat' (first | with_reducible exact hbA | with_reducible apply below_drew | with_reducible apply below_new))).1 hfe).mono ?_); rintro e w3 ⟨rfl, hb3⟩
             have hbN : Below W.heap.size W w3 := below2 (by repeat' (first | with_reducible exact hbA | with_reducible apply below_drew | with_reducible apply below_new)) hb3
             clear hbA
             have hbA := hbN
             clear hbN
             (first | (have hE : RowAt w3 W.heap.size [.bool false, .int .u64 0, .int .u64 0, .int .i64 0, .bool false, .int .u64 0, .int .u64 0, .int .i64 0, .int .u8 0, .int .i64 0, .slice none 0 0] 103 := (by with_reducible first | exact rka hb3 | exact rkb hb3 | exact rkc hb3); have f0 := hE.cell 0; have f1 := hE.cell 1; have f2 := hE.cell 2; have f3 := hE.cell 3; have f4 := hE.cell 4; have f5 := hE.cell 5; have f6 := hE.cell 6; have f7 := hE.cell 7; have f8 := hE.cell 8; have f9 := hE.cell 9; have f10 := hE.cell 10; simp only [List.getElem?_cons_zero, List.getElem?_cons_succ] at f0 f1 f2 f3 f4 f5 f6 f7 f8 f9 f10; have ff := hE.frozen; have hfl := hE.lt) | skip)))
      all_goals go_wp2_with fail
      all_goals go_meet
      all_goals refine ⟨_, _, rfl, rfl, ?_⟩
      all_goals show W0 _ _ _ _ _ _ _ _ _ _
      all_goals first
        | with_reducible exact w0_fn hbA hfe
        | with_reducible exact w0_fa hbA hE hfe
    · have hbA : Below W.heap.size W W := Below.refl _ _
      go_region_held3 (fun V => V.cell? ⟨b1, 0, none⟩ = some (.pointer (some ⟨g, 0, none⟩)) ∧ V.cell? ⟨b2, 0, none⟩ = some (.bool six) ∧ V.cell? ⟨b3, 0, none⟩ = some (.int .u64 z1) ∧ V.cell? ⟨b3, 1, none⟩ = some (.int .u64 z2) ∧ V.cell? ⟨g, kd, none⟩ = some (.slice oK nK cK))
        (first
          | (refine HSK.out _ ?_
             repeat' (first | with_reducible exact hbA | with_reducible apply below_drew | with_reducible apply below_new | with_reducible refine bset ?_ (by have := hbA.size; first | omega | (simp; omega)))))
        (first
          | (go_at_call 68; with_reducible refine (ck _).mono ?_; rintro e w2 ⟨rfl, rfl⟩)
          | (go_at_call 72
             refine (((HSO.out _ (by repeat' (first | with_reducible exact hbA | with_reducible apply below_drew | with_reducible apply below_new))).2 hfe).mono ?_); rintro e w3 ⟨r, o, nn, cc, S, rfl, hfr, hSl, ht3, hb3⟩
             have hbN : Below W.heap.size W w3 := below2 (by repeat' (first | with_reducible exact hbA | with_reducible apply below_drew | with_reducible apply below_new)) hb3
             clear hbA
             have hbA := hbN
             clear hbN
             (first | (have hE : RowAt w3 W.heap.size [.bool false, .int .u64 0, .int .u64 0, .int .i64 0, .bool false, .int .u64 0, .int .u64 0, .int .i64 0, .int .u8 0, .int .i64 0, .slice none 0 0] 103 := (by with_reducible first | exact rka hb3 | exact rkb hb3 | exact rkc hb3); have f0 := hE.cell 0; have f1 := hE.cell 1; have f2 := hE.cell 2; have f3 := hE.cell 3; have f4 := hE.cell 4; have f5 := hE.cell 5; have f6 := hE.cell 6; have f7 := hE.cell 7; have f8 := hE.cell 8; have f9 := hE.cell 9; have f10 := hE.cell 10; simp only [List.getElem?_cons_zero, List.getElem?_cons_succ] at f0 f1 f2 f3 f4 f5 f6 f7 f8 f9 f10; have ff := hE.frozen; have hfl := hE.lt) | skip)))
      all_goals go_wp2_with fail
      all_goals go_meet
      all_goals refine ⟨_, _, rfl, rfl, ?_⟩
      all_goals show W0 _ _ _ _ _ _ _ _ _ _
      all_goals first
        | with_reducible exact w0_tn hbA ht3 HB2.out HBW.out hSl hfr
        | with_reducible exact w0_ta hbA hE ht3 HB2.out HBW.out hSl hfr
  case rest =>
    obtain ⟨g5, is, rfl, rfl, HC⟩ := hcut
    have hg5 := HC.out.ge
    have hJ0 : J [] wc := hJ [] W wc none h0 ⟨HC.out.bl.os, HC.out.bl.tape, HC.out.bl.output, HC.out.bl.size, fun k hk _ => HC.out.bl.block k hk⟩ (fun r e => by cases e)
    have HWS : Hid (WS B wc six a g5 b2 b3 full [] is) := HC.out.ws
    have hbne2 : b2 ≠ g5 := by omega
    have hbne3 : b3 ≠ g5 := by omega
    have HBL : Hid (B ≤ g5) := Nat.le_trans HBW.out hg5
    clear HC HSO HSK HB h0 ck
    gi_wp2_with fail
    gi_loopg [6] full.length (fun k u6 wr => ∃ (pre : List Rt) (is : Bool), u6 = .bool is ∧ k = full.length - pre.length ∧ J pre wr ∧ Hid (WS B wr six a g5 b2 b3 full pre is))
    case atStart => exact ⟨[], is, rfl, by simp, hJ0, HWS⟩
    case round =>
      obtain ⟨pre, is2, rfl, hk, hJs, HS⟩ := hrel
      cases is2
      · have hfu := HS.out.2.1 rfl
        gi_wp2
        refine ⟨fun _ e => (by cases e), ?_⟩
        gi_wp2
        (try simp only [Exit.inBlock, Exit.then])
        refine bodyPost_end (results_none rfl _ _ _) rfl ?_
        exact ⟨⟨_, rfl⟩, full, rfl, by rw [hfu]; exact hJs⟩
      · obtain ⟨f, r, o, nn, cc, S, hI, hSl, hfu⟩ := HS.out.2.2 rfl
        have hM : pre.length < full.length := by rw [hfu]; simp
        obtain ⟨c0, c1, c2, c3, c4, c5, c6, c7, c8, c9, c10⟩ := eleven_at (i := 0) (fun t ht => by rw [Nat.zero_add]; exact hI.node.cell t)
        simp only [Nat.zero_add] at c0 c1 c2 c3 c4 c5 c6 c7 c8 c9 c10
        obtain ⟨fn, tmps, assign, body, hy, hR⟩ := hY pre r _ hJs hM
        unfold encW at hy
        gi_wp2
        refine ⟨fun h => by simp [Fence.wide] at h, ?_⟩
        refine hR.mono ?_
        rintro e W3 ⟨rfl, hJ3, hk3⟩
        have hgB := HBL.out
        have n3 := rowAt_kw hI.node hk3 (by omega) (by omega)
        have s3 := rowAt_kw hI.s6 hk3 (by omega) (by omega)
        have a3 := rowAt_kw hI.ad hk3 (by omega) (by omega)
        have t3 : HasTrie f W3 (fun b => B ≤ b ∧ b < wr.heap.size ∧ b ≠ g5) six (.slice o nn cc) S := HasTrie.keepC f hI.tr (fun b o hq ho hc => hk3.2 b o (by have := hq.1; omega) (by have := hq.1; omega) ho hc) hk3.1
        obtain ⟨cA, cB⟩ := step_over t3 (fun b hb => Nat.lt_of_lt_of_le hb.2.1 hk3.1) ha hSl
        rw [show zeroN = .agg #[.bool false, .int .u64 0, .int .u64 0, .int .i64 0, .bool false, .int .u64 0, .int .u64 0, .int .i64 0, .int .u8 0, .int .i64 0, .slice none 0 0] from rfl] at cA
        unfold nodeV at cB
        have x0 : W3.cell? ⟨g5, 10, none⟩ = some (.slice o nn cc) := n3.cell 10
        have x1 : W3.cell? ⟨b2, 0, none⟩ = some (.bool six) := s3.cell 0
        have x2 : W3.cell? ⟨b3, 0, none⟩ = some (.int .u64 (hiN a : Int)) := a3.cell 0
        have x3 : W3.cell? ⟨b3, 1, none⟩ = some (.int .u64 (loN a : Int)) := a3.cell 1
        have xf := n3.frozen
        have hkk : full.length - (pre ++ [r]).length < gk := by rw [hk, List.length_append]; simp; omega
        clear c0 c1 c2 c3 c4 c5 c6 c7 c8 c9 c10 hI HS hJs
        by_cases hSe : S.filter (hasR six a) = []
        · gi_wp2_with fail
          refine ⟨trivial, fun h => by simp [Fence.wide] at h, ?_⟩
          gi_at_call 72; refine (callsIn_wide.2 (cA hSe)).mono ?_; rintro e w4 ⟨rfl, hb4⟩
          have n4 := n3.below hb4
          have hb2r := s3.below hb4
          have hb3r := a3.below hb4
          obtain ⟨d0, d1, d2, d3, d4, d5, d6, d7, d8, d9, d10⟩ := eleven_at (i := 0) (fun t ht => by rw [Nat.zero_add]; exact n4.cell t)
          simp only [Nat.zero_add] at d0 d1 d2 d3 d4 d5 d6 d7 d8 d9 d10
          have df := n4.frozen
          have dl := n4.lt
          have hgr := putN_grown (grown_b g5 hb4) false 0 0 0 false 0 0 0 0 0 (.slice none 0 0)
          have hJ5 := hJ (pre ++ [r]) W3 _ (some g5) hJ3 hgr (fun r e => by injection e with e; omega)
          have HW5 : Hid (WS B (putN w4 g5 false 0 0 0 false 0 0 0 0 0 (.slice none 0 0)) six a g5 b2 b3 full (pre ++ [r]) false) := ws_false (putN_row n4 rfl _ _ _ _ _ _ _ _ _ _ _) rfl (by rw [hfu, hSe])
          clear cA cB x0 x1 x2 x3 xf n3 n4 s3 a3 t3 hk3 hJ3 hR hy
          gi_wp2
          gi_roundg (full.length - (pre ++ [r]).length)
          case measure => exact hkk
          case rel => exact ⟨pre ++ [r], false, rfl, rfl, hJ5, HW5⟩
        · gi_wp2_with fail
          refine ⟨trivial, fun h => by simp [Fence.wide] at h, ?_⟩
          gi_at_call 72; refine (callsIn_wide.2 (cB hSe)).mono ?_; rintro e w4 ⟨r2, o2, n2, cc2, S2, rfl, hfr2, hS2, ht4, hb4⟩
          have n4 := n3.below hb4
          have hb2r := s3.below hb4
          have hb3r := a3.below hb4
          obtain ⟨d0, d1, d2, d3, d4, d5, d6, d7, d8, d9, d10⟩ := eleven_at (i := 0) (fun t ht => by rw [Nat.zero_add]; exact n4.cell t)
          simp only [Nat.zero_add] at d0 d1 d2 d3 d4 d5 d6 d7 d8 d9 d10
          have df := n4.frozen
          have dl := n4.lt
          have hgr := putN_grown (grown_b g5 hb4) r2.pf.six (hiN r2.pf.n : Int) (loN r2.pf.n : Int) r2.pf.len r2.pf.six (hiN r2.pf.n : Int) (loN r2.pf.n : Int) r2.pf.len (r2.act.k : Int) r2.act.i (.slice o2 n2 cc2)
          have hJ5 := hJ (pre ++ [r]) W3 _ (some g5) hJ3 hgr (fun r e => by injection e with e; omega)
          have HW5 : Hid (WS B (putN w4 g5 r2.pf.six (hiN r2.pf.n : Int) (loN r2.pf.n : Int) r2.pf.len r2.pf.six (hiN r2.pf.n : Int) (loN r2.pf.n : Int) r2.pf.len (r2.act.k : Int) r2.act.i (.slice o2 n2 cc2)) six a g5 b2 b3 full (pre ++ [r]) true) := ws_true (r := r2) (putN_row n4 rfl _ _ _ _ _ _ _ _ _ _ _) ht4 (fun b hb => ⟨hb.1, by rw [sputN]; have h1 := hb.2.1; have h2 := hk3.1; have h3 := hb4.size; omega, hb.2.2, ((putN_grown (World.grownBy.refl w4 _) _ _ _ _ _ _ _ _ _ _ _).block b (by have h1 := hb.2.1; have h2 := hk3.1; have h3 := hb4.size; omega) (fun e => by injection e with e; exact hb.2.2 e))⟩) (by rw [sputN]; exact Nat.le_refl _) (row_other hb2r (putN_grown (World.grownBy.refl w4 _) _ _ _ _ _ _ _ _ _ _ _) hbne2) (row_other hb3r (putN_grown (World.grownBy.refl w4 _) _ _ _ _ _ _ _ _ _ _ _) hbne3) HBL.out hS2 (by rw [hfu, hfr2]; simp)
          clear cA cB x0 x1 x2 x3 xf n3 n4 s3 a3 t3 hk3 hJ3 hR hy
          gi_wp2
          gi_roundg (full.length - (pre ++ [r]).length)
          case measure => exact hkk
          case rel => exact ⟨pre ++ [r], true, rfl, rfl, hJ5, HW5⟩
end Go.Proofs.Ytjgieaijdkmadaa.Tr
namespace Go.Proofs.Ytjgieaijdkmadaa.Tr
open Go.RowKit Go.Shelf
open Go.Proofs.Ytjgieaijdkmadaa.Rng
open Go.Proofs.Ytjgieaijdkmadaa.Lk (HasRow)
open Go.Proofs.Ytjgieaijdkmadaa.Addr (Pf okP wideN kP hasB coversB rightB hiN loN adV RowAt below2 below_drew below_new bset RowAt.lt RowAt.cell RowAt.frozen RowAt.below RowAt.drew RowAt.new RowAt.alloc RowAt.set1 cells2)
attribute [local go_sem] Oper.semAt_some
theorem way_any (g : Nat) (six : Bool) (z1 z2 : Int) (w : World) : Calls Try.prog 42 #[.pointer (some ⟨g, 0, none⟩), .bool six, .agg #[.int .u64 z1, .int .u64 z2]] w fun e w' => e = .returned (.func (.func 71) #[] #[.pointer (some ⟨w.heap.size, 0, none⟩), .pointer (some ⟨w.heap.size + 1, 0, none⟩), .pointer (some ⟨w.heap.size + 1 + 1, 0, none⟩)]) ∧ w' = ((w.alloc (.cells #[.pointer (some ⟨g, 0, none⟩)] 66)).alloc (.cells #[.bool six] 4)).alloc (.cells #[.int .u64 z1, .int .u64 z2] 25) := by
  go_enter Try.func42, Try.ntmps42
  go_wp2
  go_ret
  exact ⟨rfl, rfl⟩
def zeroR : Rt := ⟨⟨false, 0, 0⟩, ⟨0, 0⟩⟩
def lastR (xs : List Rt) : Rt := xs.getLast?.getD zeroR
def codeR (xs : List Rt) : Int := if xs.length = 0 then 3 else 0
def longT (l : List Rt) (six : Bool) (a : Nat) : Rt × Int := if okT l && rightB six a then (lastR (l.filter (hasR six a)), codeR (l.filter (hasR six a))) else (zeroR, 2)
theorem lastR_snoc (xs : List Rt) (x : Rt) : lastR (xs ++ [x]) = x := by unfold lastR; simp
theorem codeR_snoc (xs : List Rt) (x : Rt) : codeR (xs ++ [x]) = 0 := by unfold codeR; simp
def rtA (r : Rt) : Value := .agg #[.bool r.pf.six, .int .u64 (hiN r.pf.n : Int), .int .u64 (loN r.pf.n : Int), .int .i64 r.pf.len, .int .u8 (r.act.k : Int), .int .i64 r.act.i]
theorem kw_b {bL bW : Nat} (W : World) (l : Nat) (o o' : Obj) (h : W.heap[l]? = some o) (hc : o.isCells = false) : Kw bL bW W (W.putObj l o') :=
  ⟨by simp, fun b p _ _ hp hpc => (World.putObj_heap_other (fun e => by subst e; rw [h] at hp; injection hp with hp; subst hp; rw [hc] at hpc; cases hpc)).trans hp⟩
theorem grown_drew {W W' : World} {r : Option Nat} (h : W.grownBy W' r) : W.grownBy W'.drew r := ⟨h.os, h.tape, h.output, h.size, h.block⟩
/-- between two rounds -/
structure LI (m n₀ bR bL bW : Nat) (w : World) (pre : List Rt) (W : World) : Prop where
  sz : m ≤ W.heap.size
  lo : RowAt W bL (rtC (lastR pre)) 32
  wy : RowAt W bW [.int .i64 (codeR pre)] 33
  re : RowAt W bR (rtC zeroR) 32
  bl : Below n₀ w W
theorem li_held {m n₀ bR bL bW B : Nat} {w : World} (h0 : n₀ ≤ w.heap.size) (h1 : bR < B) (h2 : bL < B) (h3 : bW < B) (hB : n₀ ≤ B) : Held B (LI m n₀ bR bL bW w) := by
  intro s A C row h hg hr
  have keep : ∀ k cs t, k < B → RowAt A k cs t → RowAt C k cs t := fun k cs t hk hrow => (hg.block k (RowAt.lt hrow) (fun e => by have := hr k e.symm; omega)).trans hrow
  exact ⟨Nat.le_trans h.sz hg.size, keep _ _ _ h2 h.lo, keep _ _ _ h3 h.wy, keep _ _ _ h1 h.re, h.bl.grown hg (Nat.le_trans h0 h.bl.size) (fun k e => by have := hr k e; omega)⟩
set_option maxHeartbeats 8000000 in
set_option maxRecDepth 20000 in
theorem longest_any (l : List Rt) (v : Value) (six : Bool) (a : Nat) (w : World) (hl : HasRts w v l) (hf : ∀ x ∈ l, FitR x) (ha : a < 2 ^ 128) :
    Calls Try.prog 19 #[v, .bool six, .agg #[.int .u64 (hiN a : Int), .int .u64 (loN a : Int)]] w fun e w' => e = .returned (.tuple #[rtA (longT l six a).1, .int .i64 (longT l six a).2]) ∧ Below w.heap.size w w' := by
  obtain ⟨o, c, rfl, hc1, hc2⟩ := Lk.HasRow.slice hl
  have cc := fun W (hb : Below w.heap.size w W) => check_any l _ W (hl.keep hb) hf
  have cr := fun W => Go.Proofs.Ytjgieaijdkmadaa.Addr.right_any six a W ha
  unfold adV at cr
  have hck : checkT l = if okT l then 0 else 2 := rfl
  rw [hck] at cc
  obtain ⟨X, hX⟩ : ∃ X, X = (w.alloc (.cells #[.int .u64 (hiN a : Int), .int .u64 (loN a : Int)] 25)).alloc (.cells #[.bool false, .int .u64 0, .int .u64 0, .int .i64 0, .int .u8 0, .int .i64 0] 32) := ⟨_, rfl⟩
  have hB : Below w.heap.size w X := by rw [hX]; exact below_new (below_new (Below.refl _ _) _) _
  have r0 : RowAt X w.heap.size [.int .u64 (hiN a : Int), .int .u64 (loN a : Int)] 25 := by rw [hX]; exact (RowAt.new _ _ _).alloc _
  have r1 : RowAt X (w.heap.size + 1) (rtC zeroR) 32 := by rw [hX, ← World.size_alloc w (.cells #[.int .u64 (hiN a : Int), .int .u64 (loN a : Int)] 25)]; exact RowAt.new _ _ _
  have bad : ∀ (W : World), Below X.heap.size X W → RowAt W (w.heap.size + 1) [.bool false, .int .u64 0, .int .u64 0, .int .i64 0, .int .u8 0, .int .i64 0] 32 := fun W hb => r1.below hb
  have HBAD : Hid (∀ (W : World), Below X.heap.size X W → RowAt W (w.heap.size + 1) [.bool false, .int .u64 0, .int .u64 0, .int .i64 0, .int .u8 0, .int .i64 0] 32) := bad
  clear bad
  cases hok : okT l
  · have hP : longT l six a = (zeroR, 2) := by unfold longT; rw [hok]; rfl
    rw [hok] at cc
    simp only [Bool.false_eq_true, if_false] at cc
    rw [hP]
    clear cr hP
    generalize (hiN a : Int) = z1 at *
    generalize (loN a : Int) = z2 at *
    go_enter Try.func19, Try.ntmps19
    go_upto_region 1 with fail
    rw [← hX]
    clear hX
    go_wp2_with fail
    go_at_call 16; refine (cc _ hB).mono ?_; rintro e w1 ⟨rfl, hb1⟩
    have r3 := HBAD.out _ hb1
    have y0 := r3.cell 0
    have y1 := r3.cell 1
    have y2 := r3.cell 2
    have y3 := r3.cell 3
    have y4 := r3.cell 4
    have y5 := r3.cell 5
    simp only [List.getElem?_cons_zero, List.getElem?_cons_succ] at y0 y1 y2 y3 y4 y5
    have yf := r3.frozen
    have yl := r3.lt
    have hW := below2 hB hb1
    go_wp2_with fail
    (try simp only [Exit.inBlock, Exit.then])
    refine bodyPost_ret (v := .tuple #[.agg #[.bool false, .int .u64 0, .int .u64 0, .int .i64 0, .int .u8 0, .int .i64 0], .int .i64 2]) ?_ rfl ⟨rfl, bset (bset (bset (bset (bset (bset hW (by omega)) (by omega)) (by omega)) (by omega)) (by omega)) (by omega)⟩
    rw [results_cell_tmp1 rfl]
    go_simp
  rw [hok] at cc
  simp only [if_true] at cc
  cases hri : rightB six a
  · have hP : longT l six a = (zeroR, 2) := by unfold longT; rw [hok, hri]; rfl
    rw [hri] at cr
    rw [hP]
    clear hP
    generalize (hiN a : Int) = z1 at *
    generalize (loN a : Int) = z2 at *
    go_enter Try.func19, Try.ntmps19
    go_upto_region 1 with fail
    rw [← hX]
    clear hX
    go_wp2_with fail
    go_at_call 16; refine (cc _ hB).mono ?_; rintro e w1 ⟨rfl, hb1⟩
    obtain ⟨x0, x1, xf⟩ := cells2 (r0.below hb1)
    go_wp2_with fail
    go_at_call 24; refine (cr _).mono ?_; rintro e w2 ⟨rfl, hb2⟩
    clear x0 x1 xf
    have r3 := HBAD.out _ (below2 hb1 hb2)
    have y0 := r3.cell 0
    have y1 := r3.cell 1
    have y2 := r3.cell 2
    have y3 := r3.cell 3
    have y4 := r3.cell 4
    have y5 := r3.cell 5
    simp only [List.getElem?_cons_zero, List.getElem?_cons_succ] at y0 y1 y2 y3 y4 y5
    have yf := r3.frozen
    have yl := r3.lt
    have hW := below2 (below2 hB hb1) hb2
    go_wp2_with fail
    (try simp only [Exit.inBlock, Exit.then])
    refine bodyPost_ret (v := .tuple #[.agg #[.bool false, .int .u64 0, .int .u64 0, .int .i64 0, .int .u8 0, .int .i64 0], .int .i64 2]) ?_ rfl ⟨rfl, bset (bset (bset (bset (bset (bset hW (by omega)) (by omega)) (by omega)) (by omega)) (by omega)) (by omega)⟩
    rw [results_cell_tmp1 rfl]
    go_simp
  have hP : longT l six a = (lastR (l.filter (hasR six a)), codeR (l.filter (hasR six a))) := by unfold longT; rw [hok, hri]; rfl
  rw [hri] at cr
  rw [hP]
  have hokl := (okT_iff l).1 hok
  have cg := fun W (hb : Below w.heap.size w W) => grown_any l _ W (hl.keep hb) hokl.2.2 (fun x hx => by have := hokl.2.1 x hx; unfold okR at this; simp only [Bool.and_eq_true] at this; exact this.1) hokl.1
  have cw := fun g W => way_any g six (hiN a : Int) (loN a : Int) W
  refine (callsIn_wide (n := 5)).1 ?_
  refine callsIn_of_wp_marks Try.func19 rfl trivial ?_ rfl
  simp only [Try.ntmps19, List.size_toArray, List.length_cons, List.length_nil, Nat.reduceAdd, Nat.reduceSub, Array.replicate_succ, Array.replicate_zero, List.push_toArray, List.append_toArray, List.nil_append, List.cons_append]
  gi_upto_region 1 with fail
  rw [← hX]
  clear hX
  gi_wp2_with fail
  refine ⟨trivial, ?_⟩
  gi_at_call 16; refine (callsIn_wide.2 (cc _ hB)).mono ?_; rintro e w1 ⟨rfl, hb1⟩
  obtain ⟨x0, x1, xf⟩ := cells2 (r0.below hb1)
  gi_wp2_with fail
  refine ⟨trivial, ?_⟩
  gi_at_call 24; refine (callsIn_wide.2 (cr _)).mono ?_; rintro e w2 ⟨rfl, hb2⟩
  clear x0 x1 xf
  have hb02 := below2 hb1 hb2
  gi_upto_region 4 with fail
  obtain ⟨Y, hY⟩ : ∃ Y, Y = (w2.alloc (.cells #[.bool false, .int .u64 0, .int .u64 0, .int .i64 0, .int .u8 0, .int .i64 0] 32)).alloc (.cells #[.int .i64 3] 33) := ⟨_, rfl⟩
  have hbY2 : Below w2.heap.size w2 Y := by rw [hY]; exact below_new (below_new (Below.refl _ _) _) _
  have rL : RowAt Y w2.heap.size (rtC zeroR) 32 := by rw [hY]; exact (RowAt.new _ _ _).alloc _
  have rW : RowAt Y (w2.heap.size + 1) [.int .i64 3] 33 := by rw [hY, ← World.size_alloc w2 (.cells #[.bool false, .int .u64 0, .int .u64 0, .int .i64 0, .int .u8 0, .int .i64 0] 32)]; exact RowAt.new _ _ _
  have hYs : Y.heap.size = w2.heap.size + 1 + 1 := by rw [hY]; simp
  rw [← hY]
  clear hY
  have hbXY := below2 hb02 hbY2
  have hbwY := below2 hB hbXY
  have rR : RowAt Y (w.heap.size + 1) (rtC zeroR) 32 := HBAD.out _ hbXY
  have rA : RowAt Y w.heap.size [.int .u64 (hiN a : Int), .int .u64 (loN a : Int)] 25 := r0.below hbXY
  have hws : w.heap.size + 1 < w2.heap.size := (HBAD.out _ hb02).lt
  obtain ⟨bL, hbL⟩ : ∃ bL, bL = w2.heap.size := ⟨_, rfl⟩
  rw [← hbL] at rL rW hYs hws ⊢
  have cg2 := fun W (hb : Below Y.heap.size Y W) => cg W (below2 hbwY hb)
  have HSK : Hid (∀ W : World, Below Y.heap.size Y W → W.cell? ⟨w.heap.size, 0, none⟩ = some (.int .u64 (hiN a : Int)) ∧ W.cell? ⟨w.heap.size, 1, none⟩ = some (.int .u64 (loN a : Int))) := fun W hb => ⟨(rA.below hb).cell 0, (rA.below hb).cell 1⟩
  have hbA : Below Y.heap.size Y Y := Below.refl _ _
  clear cc cr cg hbL hb1 hb2 hb02 hbY2 hbXY
  refine wpIn_wide.2 ?_
  go_region_held3 (fun W => W.cell? ⟨w.heap.size, 0, none⟩ = some (.int .u64 (hiN a : Int)) ∧ W.cell? ⟨w.heap.size, 1, none⟩ = some (.int .u64 (loN a : Int)))
    (first
      | (refine HSK.out _ ?_
         repeat' (first | with_reducible exact hbA | with_reducible apply below_drew | with_reducible apply below_new)))
    (first
      | (go_at_call 41
         refine (cg2 _ (by repeat' (first | with_reducible exact hbA | with_reducible apply below_drew))).mono ?_
         rintro e w3 ⟨g, u0, u1, K0, K1, rfl, hT, hfil, hlnK, hb3⟩
         have hbN : Below Y.heap.size Y w3 := below2 (by repeat' (first | with_reducible exact hbA | with_reducible apply below_drew)) hb3
         clear hbA
         have hbA := hbN
         clear hbN)
      | (go_at_call 42
         refine (cw _ _).mono ?_
         rintro e w4 ⟨rfl, rfl⟩))
  obtain ⟨V, hV⟩ : ∃ V, V = ((w3.alloc (.cells #[.pointer (some ⟨g, 0, none⟩)] 66)).alloc (.cells #[.bool six] 4)).alloc (.cells #[.int .u64 (hiN a : Int), .int .u64 (loN a : Int)] 25) := ⟨_, rfl⟩
  have hb3V : Below w3.heap.size w3 V := by rw [hV]; exact below_new (below_new (below_new (Below.refl _ _) _) _) _
  have e1 : (w3.alloc (.cells #[.pointer (some ⟨g, 0, none⟩)] 66)).heap.size = w3.heap.size + 1 := World.size_alloc _ _
  have e2 : ((w3.alloc (.cells #[.pointer (some ⟨g, 0, none⟩)] 66)).alloc (.cells #[.bool six] 4)).heap.size = w3.heap.size + 1 + 1 := by rw [World.size_alloc, e1]
  have v1 : RowAt V w3.heap.size [.pointer (some ⟨g, 0, none⟩)] 66 := by rw [hV]; exact ((RowAt.new _ _ _).alloc _).alloc _
  have v2 : RowAt V (w3.heap.size + 1) [.bool six] 4 := by rw [hV, ← e1]; exact (RowAt.new _ _ _).alloc _
  have v3 : RowAt V (w3.heap.size + 1 + 1) [.int .u64 (hiN a : Int), .int .u64 (loN a : Int)] 25 := by rw [hV, ← e2]; exact RowAt.new _ _ _
  rw [← hV]
  clear hV e1 e2 HSK cg2 cw
  have hbYV := below2 hbA hb3V
  have hTV := hT.below hb3V
  have hY3 : Y.heap.size ≤ w3.heap.size := hbA.size
  have hYd : (Y.drew).heap.size = Y.heap.size := rfl
  have hwV := below2 hbwY hbYV
  have I0 : LI V.heap.size w.heap.size (w.heap.size + 1) bL (bL + 1) w [] V := ⟨Nat.le_refl _, rL.below hbYV, rW.below hbYV, rR.below hbYV, hwV⟩
  have hVY := hbYV.size
  have hww := hbwY.size
  gi_wp2_with fail
  refine range_cells (α := Rt) (by omega) (gf := 71) (lb := #[.pointer (some ⟨w3.heap.size, 0, none⟩), .pointer (some ⟨w3.heap.size + 1, 0, none⟩), .pointer (some ⟨w3.heap.size + 1 + 1, 0, none⟩)]) rfl (enters_of Try.func71 (by kernel_rfl) rfl)
    (way1_tells six a (5 - 1) w3.heap.size (w3.heap.size + 1) (w3.heap.size + 1 + 1) bL (bL + 1) V hTV v1 v2 v3 (by omega) (by omega) (by omega) (by omega) ha (hlnK six)) kw_t kw_b (fun _ => rfl)
    (LI V.heap.size w.heap.size (w.heap.size + 1) bL (bL + 1) w) (li_held (Nat.le_refl _) (by omega) (by omega) (by omega) (by omega)) I0
    (fun x a' W => ∃ Bx, RowAt W Bx (rtC x) 32 ∧ V.heap.size ≤ Bx ∧ a' = { tmps := #[.slice o l.length c, .bool six, .agg #[.int .u64 (hiN a : Int), .int .u64 (loN a : Int)], undef, undef, .pointer (some ⟨w.heap.size, 0, none⟩), .pointer (some ⟨w.heap.size + 1, 0, none⟩), .int .i64 0, .pointer (some ⟨bL, 0, none⟩), .pointer (some ⟨bL + 1, 0, none⟩), .pointer (some ⟨Bx, 0, none⟩), .slice o l.length c, .int .i64 0, .bool false, .bool false, .bool six, .agg #[.int .u64 (hiN a : Int), .int .u64 (loN a : Int)], .bool true, .bool false, .bool false, undef, .agg #[.bool false, .int .u64 0, .int .u64 0, .int .i64 0, .int .u8 0, .int .i64 0], .slice o l.length c, .pointer (some ⟨g, 0, none⟩), .bool six, .agg #[.int .u64 (hiN a : Int), .int .u64 (loN a : Int)], .func (.func 71) #[] #[.pointer (some ⟨w3.heap.size, 0, none⟩), .pointer (some ⟨w3.heap.size + 1, 0, none⟩), .pointer (some ⟨w3.heap.size + 1 + 1, 0, none⟩)], .agg #[.bool x.pf.six, .int .u64 (hiN x.pf.n : Int), .int .u64 (loN x.pf.n : Int), .int .i64 x.pf.len, .int .u8 (x.act.k : Int), .int .i64 x.act.i], undef, undef, undef], defers := [] })
    (fun x a' W l o o' ⟨Bx, h1, h2, h3⟩ ho hc => ⟨Bx, (World.putObj_heap_other (fun e => by subst e; have h4 : W.heap[Bx]? = _ := h1; rw [h4] at ho; injection ho with ho; subst ho; cases hc)).trans h1, h2, h3⟩)
    ?assign ?body ?done
  case assign =>
    rintro lp pre x W K hI hK
    have hA := hK _ (W.alloc (.cells #[.bool x.pf.six, .int .u64 (hiN x.pf.n : Int), .int .u64 (loN x.pf.n : Int), .int .i64 x.pf.len, .int .u8 (x.act.k : Int), .int .i64 x.act.i] 32)) ((KeepsOthers.alloc W _).from _) ⟨by simp, fun b o _ _ h _ => (Below.heap_alloc W _ b (Array.getElem?_eq_some_iff.1 h).1).trans h⟩ (li_held (B := V.heap.size) (Nat.le_refl _) (by omega) (by omega) (by omega) (by omega) pre W _ none hI (World.grownBy_alloc W _ none) (fun r e => by cases e)) ⟨W.heap.size, RowAt.new W (rtC x) _, hI.sz, rfl⟩
    unfold encW
    gi_wp2
    exact hA
  case body =>
    rintro lp pre x a' W hI ⟨Bx, hx, hge, rfl⟩
    obtain ⟨c0, c1, c2, c3, c4, c5⟩ := six_at (i := 0) (fun t ht => by rw [Nat.zero_add]; exact hx.cell t)
    obtain ⟨d0, d1, d2, d3, d4, d5⟩ := six_at (i := 0) (fun t ht => by rw [Nat.zero_add]; exact hI.lo.cell t)
    simp only [Nat.zero_add] at c0 c1 c2 c3 c4 c5 d0 d1 d2 d3 d4 d5
    have df := hI.lo.frozen
    have e0 := hI.wy.cell 0
    simp only [List.getElem?_cons_zero] at e0
    have ef := hI.wy.frozen
    have hdl := hI.lo.lt
    have hel := hI.wy.lt
    obtain ⟨W5, hW5⟩ : ∃ W5, W5 = ((((((W.setCell ⟨bL, 0, none⟩ (.bool x.pf.six)).setCell ⟨bL, 1, none⟩ (.int .u64 (hiN x.pf.n : Int))).setCell ⟨bL, 2, none⟩ (.int .u64 (loN x.pf.n : Int))).setCell ⟨bL, 3, none⟩ (.int .i64 x.pf.len)).setCell ⟨bL, 4, none⟩ (.int .u8 (x.act.k : Int))).setCell ⟨bL, 5, none⟩ (.int .i64 x.act.i)) := ⟨_, rfl⟩
    have hg5 : W.grownBy W5 (some bL) := by rw [hW5]; exact grown_s (grown_s (grown_s (grown_s (grown_s (grown_s (World.grownBy.refl W _) 0 _) 1 _) 2 _) 3 _) 4 _) 5 _
    have r5 : RowAt W5 bL (rtC x) 32 := by rw [hW5]; exact (((((hI.lo.set1 0 _).set1 1 _).set1 2 _).set1 3 _).set1 4 _).set1 5 _
    have hg6 : W5.grownBy (W5.setCell ⟨bL + 1, 0, none⟩ (.int .i64 0)) (some (bL + 1)) := grown_s (World.grownBy.refl W5 _) 0 _
    have w5 : RowAt W5 (bL + 1) [.int .i64 (codeR pre)] 33 := row_other hI.wy hg5 (by omega)
    have q5 : RowAt W5 (w.heap.size + 1) (rtC zeroR) 32 := row_other hI.re hg5 (by omega)
    have HL : Hid (LI V.heap.size w.heap.size (w.heap.size + 1) bL (bL + 1) w (pre ++ [x]) (W5.setCell ⟨bL + 1, 0, none⟩ (.int .i64 0))) := by
      refine ⟨Nat.le_trans hI.sz (Nat.le_trans hg5.size hg6.size), by rw [lastR_snoc]; exact row_other r5 hg6 (by omega), by rw [codeR_snoc]; exact w5.set1 0 _, row_other q5 hg6 (by omega), ?_⟩
      exact (hI.bl.grown hg5 hI.bl.size (fun k e => by injection e with e; omega)).grown hg6 (Nat.le_trans hI.bl.size hg5.size) (fun k e => by injection e with e; omega)
    have HK : Hid (KeepsFrom V.heap.size W (W5.setCell ⟨bL + 1, 0, none⟩ (.int .i64 0)) ∧ Kw bL (bL + 1) W (W5.setCell ⟨bL + 1, 0, none⟩ (.int .i64 0))) := by
      refine ⟨(KeepsFrom.of_grownBy hg5 (fun j e => by injection e with e; omega)).trans (KeepsFrom.of_grownBy hg6 (fun j e => by injection e with e; omega)), Nat.le_trans hg5.size hg6.size, fun b o h1 h2 h3 h4 => ?_⟩
      have hb := (Array.getElem?_eq_some_iff.1 h3).1
      rw [hg6.block b (Nat.lt_of_lt_of_le hb hg5.size) (fun e => by injection e with e; exact h2 e), hg5.block b hb (fun e => by injection e with e; exact h1 e)]
      exact h3
    have HW5 : Hid (W5 = ((((((W.setCell ⟨bL, 0, none⟩ (.bool x.pf.six)).setCell ⟨bL, 1, none⟩ (.int .u64 (hiN x.pf.n : Int))).setCell ⟨bL, 2, none⟩ (.int .u64 (loN x.pf.n : Int))).setCell ⟨bL, 3, none⟩ (.int .i64 x.pf.len)).setCell ⟨bL, 4, none⟩ (.int .u8 (x.act.k : Int))).setCell ⟨bL, 5, none⟩ (.int .i64 x.act.i))) := hW5
    clear hW5 hg5 hg6 r5 w5 q5
    gi_wp2
    rw [← HW5.out]
    exact ⟨HK.out.1, HK.out.2, HL.out⟩
  case done =>
    rintro D xs W hD hS hI hK
    rw [hfil six a] at hS
    subst hS
    obtain ⟨d0, d1, d2, d3, d4, d5⟩ := six_at (i := 0) (fun t ht => by rw [Nat.zero_add]; exact hI.lo.cell t)
    obtain ⟨f0, f1, f2, f3, f4, f5⟩ := six_at (i := 0) (fun t ht => by rw [Nat.zero_add]; exact hI.re.cell t)
    simp only [Nat.zero_add] at d0 d1 d2 d3 d4 d5 f0 f1 f2 f3 f4 f5
    have ff := hI.re.frozen
    have e0 := hI.wy.cell 0
    simp only [List.getElem?_cons_zero] at e0
    have hfl := hI.re.lt
    have hdl := hI.lo.lt
    have hel := hI.wy.lt
    have HRT : Hid (rtA (lastR (l.filter (hasR six a))) = .agg #[.bool (lastR (l.filter (hasR six a))).pf.six, .int .u64 (hiN (lastR (l.filter (hasR six a))).pf.n : Int), .int .u64 (loN (lastR (l.filter (hasR six a))).pf.n : Int), .int .i64 (lastR (l.filter (hasR six a))).pf.len, .int .u8 ((lastR (l.filter (hasR six a))).act.k : Int), .int .i64 (lastR (l.filter (hasR six a))).act.i]) := rfl
    have hne1 : w.heap.size + 1 ≠ bL := by omega
    have hne2 : w.heap.size + 1 ≠ bL + 1 := by omega
    have hbl := hI.bl
    have hre := hI.re
    clear hI
    generalize hCR : codeR (l.filter (hasR six a)) = CR at e0
    have HCR : Hid (codeR (l.filter (hasR six a)) = CR) := hCR
    clear hCR
    generalize (lastR (l.filter (hasR six a))).pf.six = s0 at *
    generalize (hiN (lastR (l.filter (hasR six a))).pf.n : Int) = s1 at *
    generalize (loN (lastR (l.filter (hasR six a))).pf.n : Int) = s2 at *
    generalize (lastR (l.filter (hasR six a))).pf.len = s3 at *
    generalize ((lastR (l.filter (hasR six a))).act.k : Int) = s4 at *
    generalize (lastR (l.filter (hasR six a))).act.i = s5 at *
    have mixed : Try.prog.follows Departure.mixedOrders = true := by kernel_rfl
    have late : Try.prog.follows Departure.lateStores = true ∨ Try.prog.follows Departure.lateStores = false := by cases Try.prog.follows Departure.lateStores <;> simp
    gi_wp2_with fail
    refine wpIn_wide.2 ?_
    go_region
    obtain ⟨W7, hW7⟩ : ∃ W7, W7 = ((((((W.setCell ⟨w.heap.size + 1, 0, none⟩ (.bool s0)).setCell ⟨w.heap.size + 1, 1, none⟩ (.int .u64 s1)).setCell ⟨w.heap.size + 1, 2, none⟩ (.int .u64 s2)).setCell ⟨w.heap.size + 1, 3, none⟩ (.int .i64 s3)).setCell ⟨w.heap.size + 1, 4, none⟩ (.int .u8 s4)).setCell ⟨w.heap.size + 1, 5, none⟩ (.int .i64 s5)).drew := ⟨_, rfl⟩
    have r7 : RowAt W7 (w.heap.size + 1) [.bool s0, .int .u64 s1, .int .u64 s2, .int .i64 s3, .int .u8 s4, .int .i64 s5] 32 := by rw [hW7]; exact ((((((hre.set1 0 _).set1 1 _).set1 2 _).set1 3 _).set1 4 _).set1 5 _).drew
    have hg7 : W.grownBy W7 (some (w.heap.size + 1)) := by
      rw [hW7]
      exact grown_drew (grown_s (grown_s (grown_s (grown_s (grown_s (grown_s (World.grownBy.refl W (some (w.heap.size + 1))) 0 (.bool s0)) 1 (.int .u64 s1)) 2 (.int .u64 s2)) 3 (.int .i64 s3)) 4 (.int .u8 s4)) 5 (.int .i64 s5))
    have hK7 : W7.heap[D]? = some (.deferred (some [])) := (hg7.block D (Array.getElem?_eq_some_iff.1 hK).1 (fun e => by injection e with e; omega)).trans hK
    have hb7 : Below w.heap.size w W7 := hbl.grown hg7 hbl.size (fun k e => by injection e with e; omega)
    rw [← hW7]
    have r8 : RowAt (W7.putObj D (.deferred none)) (w.heap.size + 1) [.bool s0, .int .u64 s1, .int .u64 s2, .int .i64 s3, .int .u8 s4, .int .i64 s5] 32 := (World.putObj_heap_other (by omega)).trans r7
    have hb8 : Below w.heap.size w (W7.putObj D (.deferred none)) := hb7.trans (belowK_b (w := w) (Nat.le_refl _) W7 D _ _ (by omega) hK7 rfl rfl)
    have y0 := r8.cell 0
    have y1 := r8.cell 1
    have y2 := r8.cell 2
    have y3 := r8.cell 3
    have y4 := r8.cell 4
    have y5 := r8.cell 5
    simp only [List.getElem?_cons_zero, List.getElem?_cons_succ] at y0 y1 y2 y3 y4 y5
    clear hW7 d0 d1 d2 d3 d4 d5 f0 f1 f2 f3 f4 f5 ff e0 hg7 r7 hre
    gi_wp2
    refine ⟨by simp, .inl ⟨_, _, rfl, run_takeDeferred (w := W7) hK7, ?_⟩⟩
    refine ⟨.tuple #[.agg #[.bool s0, .int .u64 s1, .int .u64 s2, .int .i64 s3, .int .u8 s4, .int .i64 s5], .int .i64 CR], ?_, ?_⟩
    · rw [results_cell_tmp1 rfl]
      go_simp
    · exact ⟨by show _ = Ending.returned (Value.tuple #[rtA (lastR (l.filter (hasR six a))), _]); rw [HRT.out, HCR.out], hb8⟩
end Go.Proofs.Ytjgieaijdkmadaa.Tr
