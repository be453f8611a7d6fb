/- spoorlaw10.lives: the answers that the document gives. -/
import Derived.Test.YtiemlaehhmlhmaaSpSame
import Derived.Test.YtiemlaehhmlhmaaSpTop2
import Derived.Test.YtiemlaehhmlhmaaSpTop3
import Derived.Test.YtiemlaehhmlhmaaSpHas
import Derived.Deep.RegionHeld3
set_option linter.unusedVariables false
namespace Go.Proofs.Ytiemlaehhmlhmaa.Sp
open Go.RowKit
open Go.Proofs.Ytiemlaehhmlhmaa.Lk (HasRow addr_add)
open Go.Proofs.Ytiemlaehhmlhmaa.Addr (Pf pfV okP lastN hiN loN adV RowAt below2 below_drew below_new bset RowAt.lt RowAt.cell RowAt.frozen RowAt.below RowAt.drew RowAt.new RowAt.alloc cells2 cells4)
theorem lit_l (W : World) (l : List Sp) (cs : List Value) (h : spCs l = cs) (hl : l.length ≤ 9223372036854775807) : HasSps (W.alloc (.cells cs.toArray 34)) (.slice (some ⟨W.heap.size, 0, none⟩) l.length l.length) l := by
  subst h
  · refine ⟨spCs_len l, .inr ⟨⟨W.heap.size, 0, none⟩, l.length, rfl, Nat.le_refl _, hl, fun _ => ⟨rfl, by simp⟩, fun j hj => ?_⟩⟩
    rw [addr_add, Nat.zero_add]
    exact (RowAt.new W (spCs l) 34).cell j
theorem lit_p (W : World) (l : List Pf) (cs : List Value) (h : pfCs l = cs) (hl : l.length ≤ 9223372036854775807) : HasPfs (W.alloc (.cells cs.toArray 27)) (.slice (some ⟨W.heap.size, 0, none⟩) l.length l.length) l := by
  subst h
  refine ⟨pfCs_len l, .inr ⟨⟨W.heap.size, 0, none⟩, l.length, rfl, Nat.le_refl _, hl, fun _ => ⟨rfl, by simp⟩, fun j hj => ?_⟩⟩
  rw [addr_add, Nat.zero_add]
  exact (RowAt.new W (pfCs l) 27).cell j
theorem ans_row {six : Bool} {w w' : World} {e : Ending} {bad : Int} {m : Nat → Bool} {bound : Nat} (h : AnsIs six w true bad m bound e w') (hb : bound ≤ 1024) (L : List Sp) (hL : rowB six L = true) (hm : ∀ x, m x = inB L x) : ∃ u, e = .returned (.tuple #[u, .int .i64 0]) ∧ Own1 w w' 34 u L := by
  obtain ⟨u, R, why, he, hO, _, h2⟩ := h
  rcases h2 rfl with ⟨h3, h4, h5, h6, h7⟩ | ⟨h3, h4, L', h5, h6, h7, h8⟩
  · have : R = L := row_ext h4 (rowB_iff.1 hL) (fun x => by rw [h5, hm])
    subst this h3
    exact ⟨u, he, hO⟩
  · omega
theorem fit_small {l : List Sp} (h : l.all (fun s => decide (s.1 < 2 ^ 128) && decide (s.2 < 2 ^ 128)) = true) : ∀ s ∈ l, FitS s := by
  intro s hs
  have := List.all_eq_true.1 h s hs
  simpa [FitS] using this
theorem in_cons (s : Sp) (l : List Sp) (x : Nat) : inB (s :: l) x = (hasS s x || inB l x) := rfl
theorem in_iff {a b : Bool} (h : a = true ↔ b = true) : a = b := Bool.eq_iff_iff.2 h
theorem top4 : topN false = 4294967295 := by decide
theorem mem1 (x : Nat) : inB [(5, 7), (0, 2), (3, 3), (7, 9)] x = inB [(0, 3), (5, 9)] x := by
  apply in_iff
  simp only [in_cons, inB_nil, Bool.or_eq_true, hasS_iff, Bool.false_eq_true, or_false]
  omega
theorem mem2 (x : Nat) : (decide (x ≤ topN false) && !inB [(0, 3), (5, 9)] x) = inB [(4, 4), (10, 4294967295)] x := by
  apply in_iff
  simp only [in_cons, inB_nil, Bool.or_eq_true, Bool.and_eq_true, Bool.not_eq_true', decide_eq_true_eq, Bool.or_eq_false_iff, top4, hasS_iff, Bool.false_eq_true, or_false]
  have hn : ∀ a b y : Nat, hasS (a, b) y = false ↔ ¬ (a ≤ y ∧ y ≤ b) := fun a b y => by rw [← Bool.not_eq_true, hasS_iff]
  simp only [hn, and_true]
  omega
theorem mem3 (x : Nat) : (inB [(0, 3), (5, 9)] x || inB [(4, 4), (10, 4294967295)] x) = inB [(0, 4294967295)] x := by
  apply in_iff
  simp only [in_cons, inB_nil, Bool.or_eq_true, hasS_iff, Bool.false_eq_true, or_false]
  omega
theorem mem4 (x : Nat) : (inB [(0, 3), (5, 9)] x && inB [(2, 6)] x) = inB [(2, 3), (5, 6)] x := by
  apply in_iff
  simp only [in_cons, inB_nil, Bool.or_eq_true, Bool.and_eq_true, hasS_iff, Bool.false_eq_true, or_false]
  omega
set_option maxHeartbeats 16000000 in
set_option maxRecDepth 100000 in
theorem lives_any (w : World) : Calls Try.prog 10 #[] w fun e w' => e = .returned (.bool true) ∧ Below w.heap.size w w' := by
  have hB : Below w.heap.size w w := Below.refl _ _
  go_enter Try.func10, Try.ntmps10
  go_wp2_with fail
  go_at_call 33; refine (at_any _ _ _).mono ?_; rintro e w1 ⟨rfl, hb⟩
  replace hB := below2 hB hb
  clear hb
  go_wp2_with fail
  go_at_call 33; refine (at_any _ _ _).mono ?_; rintro e w2 ⟨rfl, hb⟩
  replace hB := below2 hB hb
  clear hb
  go_wp2_with fail
  go_at_call 33; refine (at_any _ _ _).mono ?_; rintro e w3 ⟨rfl, hb⟩
  replace hB := below2 hB hb
  clear hb
  go_wp2_with fail
  go_at_call 33; refine (at_any _ _ _).mono ?_; rintro e w4 ⟨rfl, hb⟩
  replace hB := below2 hB hb
  clear hb
  obtain ⟨w5, hw5⟩ : ∃ W, W = w4.alloc (.cells #[.int .u64 0, .int .u64 5, .int .u64 0, .int .u64 7, .int .u64 0, .int .u64 0, .int .u64 0, .int .u64 2, .int .u64 0, .int .u64 3, .int .u64 0, .int .u64 3, .int .u64 0, .int .u64 7, .int .u64 0, .int .u64 9] 34) := ⟨_, rfl⟩
  have hbl : Below w4.heap.size w4 w5 := by rw [hw5]; exact below_new (Below.refl _ _) _
  have hl : HasSps w5 (.slice (some ⟨w4.heap.size, 0, none⟩) 4 4) [(5, 7), (0, 2), (3, 3), (7, 9)] := by rw [hw5]; exact lit_l w4 [(5, 7), (0, 2), (3, 3), (7, 9)] [.int .u64 0, .int .u64 5, .int .u64 0, .int .u64 7, .int .u64 0, .int .u64 0, .int .u64 0, .int .u64 2, .int .u64 0, .int .u64 3, .int .u64 0, .int .u64 3, .int .u64 0, .int .u64 7, .int .u64 0, .int .u64 9] (by kernel_rfl) (by decide)
  replace hB := below2 hB hbl
  clear hbl
  have cc := make_any false [(5, 7), (0, 2), (3, 3), (7, 9)] _ w5 hl (fit_small (by decide)) (by decide)
  go_wp2_with fail
  rw [← hw5]
  clear hw5
  go_at_call 11; refine cc.mono ?_; rintro e w6 hA
  rw [show [(5, 7), (0, 2), (3, 3), (7, 9)].all (okS false) = true from by decide] at hA
  obtain ⟨u1, rfl, hO⟩ := ans_row hA (by decide) [(0, 3), (5, 9)] (by decide) mem1
  replace hB := below2 hB hO.bl
  have h1 := hO.has
  obtain ⟨ou1, cu1, eu1, _, _⟩ := HasRow.slice h1
  subst eu1
  clear hO hA
  clear hl
  clear cc
  have cc := not_any false [(0, 3), (5, 9)] _ w6 h1 (fit_small (by decide))
  go_wp2_with fail
  go_at_call 22; refine cc.mono ?_; rintro e w7 hA
  rw [show okB false [(0, 3), (5, 9)] = true from by decide] at hA
  obtain ⟨u2, rfl, hO⟩ := ans_row hA (by decide) [(4, 4), (10, 4294967295)] (by decide) mem2
  replace hB := below2 hB hO.bl
  replace h1 := h1.keep hO.bl
  have h2 := hO.has
  obtain ⟨ou2, cu2, eu2, _, _⟩ := HasRow.slice h2
  subst eu2
  clear hO hA
  clear cc
  have cc := or_any false [(0, 3), (5, 9)] [(4, 4), (10, 4294967295)] _ _ w7 h1 h2 (fit_small (by decide)) (fit_small (by decide))
  go_wp2_with fail
  go_at_call 18; refine cc.mono ?_; rintro e w8 hA
  rw [show (okB false [(0, 3), (5, 9)] && okB false [(4, 4), (10, 4294967295)]) = true from by decide] at hA
  obtain ⟨u3, rfl, hO⟩ := ans_row hA (by decide) [(0, 4294967295)] (by decide) mem3
  replace hB := below2 hB hO.bl
  replace h1 := h1.keep hO.bl
  replace h2 := h2.keep hO.bl
  have h3 := hO.has
  obtain ⟨ou3, cu3, eu3, _, _⟩ := HasRow.slice h3
  subst eu3
  clear hO hA
  clear cc
  go_wp2_with fail
  go_at_call 33; refine (at_any _ _ _).mono ?_; rintro e w9 ⟨rfl, hb⟩
  replace hB := below2 hB hb
  replace h1 := h1.keep hb
  replace h2 := h2.keep hb
  replace h3 := h3.keep hb
  clear hb
  obtain ⟨w10, hw10⟩ : ∃ W, W = w9.alloc (.cells #[.int .u64 0, .int .u64 2, .int .u64 0, .int .u64 6] 34) := ⟨_, rfl⟩
  have hbl : Below w9.heap.size w9 w10 := by rw [hw10]; exact below_new (Below.refl _ _) _
  have hl : HasSps w10 (.slice (some ⟨w9.heap.size, 0, none⟩) 1 1) [(2, 6)] := by rw [hw10]; exact lit_l w9 [(2, 6)] [.int .u64 0, .int .u64 2, .int .u64 0, .int .u64 6] (by kernel_rfl) (by decide)
  replace hB := below2 hB hbl
  replace h1 := h1.keep hbl
  replace h2 := h2.keep hbl
  replace h3 := h3.keep hbl
  clear hbl
  have cc := and_any false [(0, 3), (5, 9)] [(2, 6)] _ _ w10 h1 hl (fit_small (by decide)) (fit_small (by decide))
  go_wp2_with fail
  rw [← hw10]
  clear hw10
  go_at_call 20; refine cc.mono ?_; rintro e w11 hA
  rw [show (okB false [(0, 3), (5, 9)] && okB false [(2, 6)]) = true from by decide] at hA
  obtain ⟨u4, rfl, hO⟩ := ans_row hA (by decide) [(2, 3), (5, 6)] (by decide) mem4
  replace hB := below2 hB hO.bl
  replace h1 := h1.keep hO.bl
  replace h2 := h2.keep hO.bl
  replace h3 := h3.keep hO.bl
  have h4 := hO.has
  obtain ⟨ou4, cu4, eu4, _, _⟩ := HasRow.slice h4
  subst eu4
  clear hO hA
  clear hl
  clear cc
  have cc := has_any false [(0, 3), (5, 9)] _ 4 w11 h1 (fit_small (by decide)) (by decide)
  rw [show hasE false [(0, 3), (5, 9)] 4 = (false, 0) from by decide, show adV 4 = .agg #[.int .u64 0, .int .u64 4] from by kernel_rfl] at cc
  go_wp2_with fail
  go_at_call 24; refine cc.mono ?_; rintro e wH ⟨rfl, hb⟩
  replace hB := below2 hB hb
  replace h1 := h1.keep hb
  replace h2 := h2.keep hb
  replace h3 := h3.keep hb
  replace h4 := h4.keep hb
  clear hb cc
  go_wp2_with fail
  go_at_call 33; refine (at_any _ _ _).mono ?_; rintro e w12 ⟨rfl, hb⟩
  replace hB := below2 hB hb
  replace h1 := h1.keep hb
  replace h2 := h2.keep hb
  replace h3 := h3.keep hb
  replace h4 := h4.keep hb
  clear hb
  obtain ⟨w13, hw13⟩ : ∃ W, W = w12.alloc (.cells #[.int .u64 0, .int .u64 0, .int .u64 0, .int .u64 2] 34) := ⟨_, rfl⟩
  have hbl : Below w12.heap.size w12 w13 := by rw [hw13]; exact below_new (Below.refl _ _) _
  have hl : HasSps w13 (.slice (some ⟨w12.heap.size, 0, none⟩) 1 1) [(0, 2)] := by rw [hw13]; exact lit_l w12 [(0, 2)] [.int .u64 0, .int .u64 0, .int .u64 0, .int .u64 2] (by kernel_rfl) (by decide)
  replace hB := below2 hB hbl
  replace h1 := h1.keep hbl
  replace h2 := h2.keep hbl
  replace h3 := h3.keep hbl
  replace h4 := h4.keep hbl
  clear hbl
  have cc := prefixes_any false [(0, 2)] _ w13 hl (fit_small (by decide))
  rw [show prefE false [(0, 2)] = ([⟨false, 0, 31⟩, ⟨false, 2, 32⟩], 0) from by kernel_rfl] at cc
  go_wp2_with fail
  rw [← hw13]
  clear hw13
  go_at_call 26; refine cc.mono ?_; rintro e wP ⟨u5, rfl, hO⟩
  replace hB := below2 hB hO.bl
  replace h1 := h1.keep hO.bl
  replace h2 := h2.keep hO.bl
  replace h3 := h3.keep hO.bl
  replace h4 := h4.keep hO.bl
  have h5 := hO.has
  obtain ⟨ou5, cu5, eu5, _, _⟩ := HasRow.slice h5
  subst eu5
  clear hl hO cc
  have cc := of_any ⟨false, 8, 30⟩ wP (by decide) (show (8 : Nat) < 2 ^ 128 by decide)
  rw [show pfV ⟨false, 8, 30⟩ = .agg #[.bool false, .int .u64 0, .int .u64 8, .int .i64 30] from by kernel_rfl, show okP ⟨false, 8, 30⟩ = true from by kernel_rfl, if_pos rfl, show spV ((⟨false, 8, 30⟩ : Pf).n, lastN ⟨false, 8, 30⟩) = .agg #[.int .u64 0, .int .u64 8, .int .u64 0, .int .u64 11] from by kernel_rfl] at cc
  unfold chk at cc
  simp only [if_true] at cc
  go_wp2_with fail
  go_at_call 13; refine cc.mono ?_; rintro e wO ⟨rfl, hb⟩
  replace hB := below2 hB hb
  replace h1 := h1.keep hb
  replace h2 := h2.keep hb
  replace h3 := h3.keep hb
  replace h4 := h4.keep hb
  replace h5 := h5.keep hb
  clear hb cc
  obtain ⟨wS, hwS⟩ : ∃ W, W = wO.alloc (.cells #[.int .u64 0, .int .u64 8, .int .u64 0, .int .u64 11] 34) := ⟨_, rfl⟩
  have hbl : Below wO.heap.size wO wS := by rw [hwS]; exact below_new (Below.refl _ _) _
  have rs : RowAt wS wO.heap.size [.int .u64 0, .int .u64 8, .int .u64 0, .int .u64 11] 34 := by rw [hwS]; exact RowAt.new _ _ _
  replace hB := below2 hB hbl
  replace h1 := h1.keep hbl
  replace h2 := h2.keep hbl
  replace h3 := h3.keep hbl
  replace h4 := h4.keep hbl
  replace h5 := h5.keep hbl
  clear hbl
  obtain ⟨gs, hgs⟩ : ∃ q, q = wO.heap.size := ⟨_, rfl⟩
  go_upto_region 8 with fail
  rw [← hwS, ← hgs]
  rw [← hgs] at rs
  clear hwS hgs
  go_wp2_with fail
  go_at_call 33; refine (at_any _ _ _).mono ?_; rintro e w14 ⟨rfl, hb⟩
  replace hB := below2 hB hb
  replace rs := rs.below hb
  replace h1 := h1.keep hb
  replace h2 := h2.keep hb
  replace h3 := h3.keep hb
  replace h4 := h4.keep hb
  replace h5 := h5.keep hb
  clear hb
  obtain ⟨w15, hw15⟩ : ∃ W, W = w14.alloc (.cells #[.int .u64 0, .int .u64 3, .int .u64 0, .int .u64 2] 34) := ⟨_, rfl⟩
  have hbl : Below w14.heap.size w14 w15 := by rw [hw15]; exact below_new (Below.refl _ _) _
  have hl : HasSps w15 (.slice (some ⟨w14.heap.size, 0, none⟩) 1 1) [(3, 2)] := by rw [hw15]; exact lit_l w14 [(3, 2)] [.int .u64 0, .int .u64 3, .int .u64 0, .int .u64 2] (by kernel_rfl) (by decide)
  replace hB := below2 hB hbl
  replace rs := rs.below hbl
  replace h1 := h1.keep hbl
  replace h2 := h2.keep hbl
  replace h3 := h3.keep hbl
  replace h4 := h4.keep hbl
  replace h5 := h5.keep hbl
  clear hbl
  have cc := make_any false [(3, 2)] _ w15 hl (fit_small (by decide)) (by decide)
  rw [show [(3, 2)].all (okS false) = false from by decide] at cc
  go_wp2_with fail
  rw [← hw15]
  clear hw15
  go_at_call 11; refine cc.mono ?_; rintro e X ⟨u8, R8, why8, rfl, hO8, hA8, -⟩
  obtain ⟨rfl, -⟩ := hA8 rfl
  replace hB := below2 hB hO8.bl
  replace rs := rs.below hO8.bl
  replace h1 := h1.keep hO8.bl
  replace h2 := h2.keep hO8.bl
  replace h3 := h3.keep hO8.bl
  replace h4 := h4.keep hO8.bl
  replace h5 := h5.keep hO8.bl
  clear hO8 hl cc hA8
  have cs1 : Hid (∀ W : World, Below X.heap.size X W → Calls Try.prog 15 #[.slice ou1 2 cu1, .slice (some ⟨W.heap.size, 0, none⟩) 2 2] (W.alloc (.cells #[.int .u64 0, .int .u64 0, .int .u64 0, .int .u64 3, .int .u64 0, .int .u64 5, .int .u64 0, .int .u64 9] 34)) fun e w' => e = .returned (.bool true) ∧ Below W.heap.size W w') := fun W hq => (same_any [(0, 3), (5, 9)] _ _ _ ((h1.keep hq).keep (below_new (Below.refl _ _) _)) (lit_l W [(0, 3), (5, 9)] [.int .u64 0, .int .u64 0, .int .u64 0, .int .u64 3, .int .u64 0, .int .u64 5, .int .u64 0, .int .u64 9] (by kernel_rfl) (by decide))).mono (fun e w' hh => ⟨hh.1, below2 (below_new (Below.refl _ _) _) hh.2⟩)
  have cs2 : Hid (∀ W : World, Below X.heap.size X W → Calls Try.prog 15 #[.slice ou2 2 cu2, .slice (some ⟨W.heap.size, 0, none⟩) 2 2] (W.alloc (.cells #[.int .u64 0, .int .u64 4, .int .u64 0, .int .u64 4, .int .u64 0, .int .u64 10, .int .u64 0, .int .u64 4294967295] 34)) fun e w' => e = .returned (.bool true) ∧ Below W.heap.size W w') := fun W hq => (same_any [(4, 4), (10, 4294967295)] _ _ _ ((h2.keep hq).keep (below_new (Below.refl _ _) _)) (lit_l W [(4, 4), (10, 4294967295)] [.int .u64 0, .int .u64 4, .int .u64 0, .int .u64 4, .int .u64 0, .int .u64 10, .int .u64 0, .int .u64 4294967295] (by kernel_rfl) (by decide))).mono (fun e w' hh => ⟨hh.1, below2 (below_new (Below.refl _ _) _) hh.2⟩)
  have cs3 : Hid (∀ W : World, Below X.heap.size X W → Calls Try.prog 15 #[.slice ou3 1 cu3, .slice (some ⟨W.heap.size, 0, none⟩) 1 1] (W.alloc (.cells #[.int .u64 0, .int .u64 0, .int .u64 0, .int .u64 4294967295] 34)) fun e w' => e = .returned (.bool true) ∧ Below W.heap.size W w') := fun W hq => (same_any [(0, 4294967295)] _ _ _ ((h3.keep hq).keep (below_new (Below.refl _ _) _)) (lit_l W [(0, 4294967295)] [.int .u64 0, .int .u64 0, .int .u64 0, .int .u64 4294967295] (by kernel_rfl) (by decide))).mono (fun e w' hh => ⟨hh.1, below2 (below_new (Below.refl _ _) _) hh.2⟩)
  have cs4 : Hid (∀ W : World, Below X.heap.size X W → Calls Try.prog 15 #[.slice ou4 2 cu4, .slice (some ⟨W.heap.size, 0, none⟩) 2 2] (W.alloc (.cells #[.int .u64 0, .int .u64 2, .int .u64 0, .int .u64 3, .int .u64 0, .int .u64 5, .int .u64 0, .int .u64 6] 34)) fun e w' => e = .returned (.bool true) ∧ Below W.heap.size W w') := fun W hq => (same_any [(2, 3), (5, 6)] _ _ _ ((h4.keep hq).keep (below_new (Below.refl _ _) _)) (lit_l W [(2, 3), (5, 6)] [.int .u64 0, .int .u64 2, .int .u64 0, .int .u64 3, .int .u64 0, .int .u64 5, .int .u64 0, .int .u64 6] (by kernel_rfl) (by decide))).mono (fun e w' hh => ⟨hh.1, below2 (below_new (Below.refl _ _) _) hh.2⟩)
  have cs5 : Hid (∀ W : World, Below X.heap.size X W → Calls Try.prog 28 #[.slice ou5 2 cu5, .slice (some ⟨W.heap.size, 0, none⟩) 2 2] (W.alloc (.cells #[.bool false, .int .u64 0, .int .u64 0, .int .i64 31, .bool false, .int .u64 0, .int .u64 2, .int .i64 32] 27)) fun e w' => e = .returned (.bool true) ∧ Below W.heap.size W w') := fun W hq => (alike_any [⟨false, 0, 31⟩, ⟨false, 2, 32⟩] _ _ _ ((h5.keep hq).keep (below_new (Below.refl _ _) _)) (lit_p W [⟨false, 0, 31⟩, ⟨false, 2, 32⟩] [.bool false, .int .u64 0, .int .u64 0, .int .i64 31, .bool false, .int .u64 0, .int .u64 2, .int .i64 32] (by kernel_rfl) (by decide))).mono (fun e w' hh => ⟨hh.1, below2 (below_new (Below.refl _ _) _) hh.2⟩)
  have HSK : Hid (∀ W : World, Below X.heap.size X W → W.cell? ⟨gs, 0, none⟩ = some (.int .u64 0) ∧ W.cell? ⟨gs, 1, none⟩ = some (.int .u64 8) ∧ W.cell? ⟨gs, 2, none⟩ = some (.int .u64 0) ∧ W.cell? ⟨gs, 3, none⟩ = some (.int .u64 11)) := fun W hq => by
    obtain ⟨c0, c1, c2, c3, _⟩ := cells4 (rs.below hq)
    exact ⟨c0, c1, c2, c3⟩
  have heq : ∀ W, (binOp .eql 34 (.agg #[.int .u64 0, .int .u64 8, .int .u64 0, .int .u64 11]) (.agg #[.int .u64 0, .int .u64 8, .int .u64 0, .int .u64 11])).run Try.prog W = .ok (.bool true) W := fun W => by
    have h := sp_eqlT (8, 11) W
    rw [show ((hiN (8, 11).1 : Nat) : Int) = 0 from by decide, show ((loN (8, 11).1 : Nat) : Int) = 8 from by decide, show ((hiN (8, 11).2 : Nat) : Int) = 0 from by decide, show ((loN (8, 11).2 : Nat) : Int) = 11 from by decide] at h
    exact h
  have hgd := same_any_guard
  clear h1 h2 h3 h4 h5 rs
  go_wp2_with fail
  simp only [List.append_eq, List.cons_append, List.nil_append]
  have hbA : Below X.heap.size X X := Below.refl _ _
  go_region_held3 (fun w' => w'.cell? ⟨gs, 0, none⟩ = some (.int .u64 0) ∧ w'.cell? ⟨gs, 1, none⟩ = some (.int .u64 8) ∧ w'.cell? ⟨gs, 2, none⟩ = some (.int .u64 0) ∧ w'.cell? ⟨gs, 3, none⟩ = some (.int .u64 11))
    (first
      | (refine HSK.out _ ?_
         repeat' (first | with_reducible exact hbA | with_reducible apply below_drew | with_reducible apply below_new)))
    (first
      | (go_at_call 33
         refine (at_any _ _ _).mono ?_
         rintro e w9 ⟨rfl, hb9⟩
         have hbN : Below X.heap.size X w9 := below2 (by repeat' (first | with_reducible exact hbA | with_reducible apply below_drew)) hb9
         clear hbA
         have hbA := hbN
         clear hbN hb9)
      | (go_at_call 15
         with_reducible refine (cs1.out _ hbA).mono ?_
         rintro e w9 ⟨rfl, hb9⟩
         have hbN : Below X.heap.size X w9 := below2 hbA hb9
         clear hbA
         have hbA := hbN
         clear hbN hb9)
      | (go_at_call 15
         with_reducible refine (cs2.out _ hbA).mono ?_
         rintro e w9 ⟨rfl, hb9⟩
         have hbN : Below X.heap.size X w9 := below2 hbA hb9
         clear hbA
         have hbA := hbN
         clear hbN hb9)
      | (go_at_call 15
         with_reducible refine (cs3.out _ hbA).mono ?_
         rintro e w9 ⟨rfl, hb9⟩
         have hbN : Below X.heap.size X w9 := below2 hbA hb9
         clear hbA
         have hbA := hbN
         clear hbN hb9)
      | (go_at_call 15
         with_reducible refine (cs4.out _ hbA).mono ?_
         rintro e w9 ⟨rfl, hb9⟩
         have hbN : Below X.heap.size X w9 := below2 hbA hb9
         clear hbA
         have hbA := hbN
         clear hbN hb9)
      | (go_at_call 28
         with_reducible refine (cs5.out _ hbA).mono ?_
         rintro e w9 ⟨rfl, hb9⟩
         have hbN : Below X.heap.size X w9 := below2 hbA hb9
         clear hbA
         have hbA := hbN
         clear hbN hb9))
  all_goals go_wp2_with fail
  all_goals go_ret
  all_goals exact ⟨rfl, below2 hB hbA⟩
end Go.Proofs.Ytiemlaehhmlhmaa.Sp
