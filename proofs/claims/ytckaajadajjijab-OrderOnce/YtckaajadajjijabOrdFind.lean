/- What order.Find returns. -/
import Derived.Test.YtckaajadajjijabOrdCheck
set_option linter.unusedVariables false
namespace Go.Proofs.Ytckaajadajjijab.Ord
open Go.RowKit
open Go.Proofs.Ytckaajadajjijab.Msg (Ev okE checkE evV evC FitE echeck_any cells12' gkeep gsetO results_cell_tmp1)
open Go.Proofs.Ytckaajadajjijab.Addr (RowAt below2 below_drew below_new bset RowAt.lt RowAt.cell RowAt.frozen RowAt.below RowAt.drew RowAt.new RowAt.alloc gdrew gset gbelow galloc grefl gfinal cells2 cells4 results_cell Bl bl_ne wp_region_bl bl_call bl_same)

set_option maxHeartbeats 2000000 in
theorem is_any (a : Int) (b : Int) (c : Int) (u : Bool) (g : Nat) (r : Int) (w : World) (hg : RowAt w g [.int .i64 r] 3) :
    Calls Try.prog 36 #[.agg #[.int .i64 a, .int .u64 b, .int .i64 c, .bool u], .pointer (some ⟨g, 0, none⟩)] w fun e w' => e = .returned (.bool (decide (a = r))) ∧ Below w.heap.size w w' := by
  obtain ⟨X, hX⟩ : ∃ X, X = w.alloc (.cells #[.int .i64 a, .int .u64 b, .int .i64 c, .bool u] 48) := ⟨_, rfl⟩
  have hB : Below w.heap.size w X := by rw [hX]; exact below_new (Below.refl _ _) _
  have r0 : RowAt X w.heap.size [.int .i64 a, .int .u64 b, .int .i64 c, .bool u] 48 := by rw [hX]; exact RowAt.new _ _ _
  have r1 := RowAt.below hg hB
  obtain ⟨x0, x1, x2, x3, xf⟩ := cells4 r0
  have y0 : X.cell? ⟨g, 0, none⟩ = some (.int .i64 r) := r1.cell 0
  clear r0 r1 hg
  go_enter Try.func36, Try.ntmps36
  go_upto_region 1 with fail
  rw [← hX]
  clear hX
  go_wp2_with fail
  go_ret
  exact ⟨by simp [Bool.beq_eq_decide_eq], hB⟩
/-- the place of the first seat of a router from the k-th on -/
def idxL (l : List St) (r : Int) (k : Nat) : Int :=
  match (l.drop k).findIdx? (fun s => decide (s.router = r)) with
  | some j => ((k + j : Nat) : Int)
  | none => -1
theorem idx_end (l : List St) (r : Int) (k : Nat) (h : l.length ≤ k) : idxL l r k = -1 := by unfold idxL; rw [List.drop_of_length_le h]; rfl
theorem idx_hit (l : List St) (r : Int) (k : Nat) (h : k < l.length) (hr : decide (l[k].router = r) = true) : idxL l r k = (k : Int) := by
  unfold idxL
  rw [List.drop_eq_getElem_cons h, List.findIdx?_cons, hr]
  simp
theorem idx_miss (l : List St) (r : Int) (k : Nat) (h : k < l.length) (hr : decide (l[k].router = r) = false) : idxL l r k = idxL l r (k + 1) := by
  unfold idxL
  rw [List.drop_eq_getElem_cons h, List.findIdx?_cons, hr]
  cases (l.drop (k + 1)).findIdx? (fun s => decide (s.router = r)) with
  | none => simp
  | some j => simp; omega
set_option maxHeartbeats 4000000 in
set_option maxRecDepth 20000 in
theorem index_any (l : List St) (v : Value) (g : Nat) (r : Int) (w : World) (h : HasSts w v l) (hg : RowAt w g [.int .i64 r] 3) :
    Calls Try.prog 35 #[v, .func (.func 36) #[] #[.pointer (some ⟨g, 0, none⟩)]] w fun e w' => e = .returned (.int .i64 (idxL l r 0)) ∧ Below w.heap.size w w' := by
  obtain ⟨o, c, rfl, hc1, hc2⟩ := HasRow.slice h
  have HR : Hid (∀ wr : World, Below w.heap.size w wr → HasSts wr (.slice o l.length c) l ∧ RowAt wr g [.int .i64 r] 3) := fun wr hb => ⟨h.keep hb, RowAt.below hg hb⟩
  obtain ⟨n, hn⟩ : ∃ n, n = l.length := ⟨_, rfl⟩
  have HN : Hid (n = l.length) := hn
  rw [← hn] at HR hc1 ⊢
  have hni : (n : Int) ≤ 9223372036854775807 := by omega
  obtain ⟨R, hR⟩ : ∃ R, R = idxL l r 0 := ⟨_, rfl⟩
  have HD : Hid (R = idxL l r 0) := hR
  rw [← hR]
  clear h hg hn hR
  go_enter Try.func35, Try.ntmps35
  go_wp2_with fail
  go_loopw [8] (fun i wr => ∃ k : Nat, k ≤ n ∧ i = .int .i64 k ∧ Below w.heap.size w wr ∧ Hid (R = idxL l r k)) (fun i _ => n - (intOf i).toNat)
  case atStart => exact ⟨0, by omega, rfl, Below.refl _ _, HD⟩
  case round =>
    obtain ⟨k, hk, rfl, hB, HG⟩ := hrel
    obtain ⟨hh, hr⟩ := HR.out _ hB
    by_cases hlt : k < n
    · have hkz : k < l.length := by rw [← HN.out]; exact hlt
      obtain ⟨g1, i1, rfl, hg1, a0, a1, a2, a3⟩ := HasSts.cell hh k hkz
      have HB1 : Hid (decide (l[k].router = r) = true → R = (k : Int)) := fun h => by rw [HG.out]; exact idx_hit l r k hkz h
      have HB2 : Hid (decide (l[k].router = r) = false → R = idxL l r (k + 1)) := fun h => by rw [HG.out]; exact idx_miss l r k hkz h
      have hki : (k : Int) < (n : Int) := by omega
      generalize l[k].router = ra at a0 HB1 HB2
      generalize (l[k].seq : Int) = rb at a1
      generalize l[k].time = rc at a2
      generalize l[k].up = ru at a3
      have cr := is_any ra rb rc ru g r wr hr
      generalize decide (ra = r) = B at cr HB1 HB2
      clear HG hh hr hg1
      go_wp2_with fail
      go_at_call 36; refine cr.mono ?_; rintro e w1 ⟨rfl, hb1⟩
      have hW := below2 hB hb1
      cases B
      · have HS1 := HB2.out rfl
        clear HB1 HB2 a0 a1 a2 a3
        go_wp2_with fail
        go_roundw
        case rel => exact ⟨k + 1, by omega, by go_num, hW, HS1⟩
        case measure => simp [intOf]; omega
      · have HV : Hid (R = (k : Int)) := HB1.out rfl
        clear HB1 HB2 a0 a1 a2 a3
        go_wp2_with fail
        go_ret
        exact ⟨by rw [HV.out]; rfl, hW⟩
    · obtain rfl : k = n := by omega
      have HV : Hid (R = -1) := by show _ = _; rw [HG.out]; exact idx_end l r _ (by rw [← HN.out]; exact Nat.le_refl _)
      clear hh hr HG
      go_wp2
      go_ret
      exact ⟨by rw [HV.out]; rfl, hB⟩
theorem idx_find (l : List St) (r : Int) : (idxL l r 0 = -1 ∧ findL l r = none) ∨ ∃ (j : Nat) (hj : j < l.length), idxL l r 0 = (j : Int) ∧ findL l r = some l[j] := by
  unfold idxL findL
  rw [List.drop_zero]
  cases hf : l.findIdx? (fun s => decide (s.router = r)) with
  | none =>
    refine .inl ⟨rfl, ?_⟩
    rw [List.findIdx?_eq_none_iff] at hf
    rw [List.find?_eq_none]
    intro x hx
    rw [hf x hx]
    simp
  | some j =>
    rw [List.findIdx?_eq_some_iff_getElem] at hf
    obtain ⟨hj, h1, h2⟩ := hf
    refine .inr ⟨j, hj, by simp, ?_⟩
    rw [List.find?_eq_some_iff_getElem]
    exact ⟨h1, j, hj, rfl, fun i hi => by have := h2 i hi; simpa using this⟩
set_option maxHeartbeats 4000000 in
set_option maxRecDepth 20000 in
theorem find_any (l : List St) (v : Value) (r : Int) (w : World) (h : HasSts w v l) :
    Calls Try.prog 14 #[v, .int .i64 r] w fun e w' => e = .returned (.tuple #[stV (seatOf l r), .bool (isIn l r)]) ∧ Below w.heap.size w w' := by
  obtain ⟨o, c, rfl, hc1, hc2⟩ := HasRow.slice h
  have HR : Hid (∀ wr : World, Below w.heap.size w wr → HasSts wr (.slice o l.length c) l) := fun wr hb => h.keep hb
  obtain ⟨X, hX⟩ : ∃ X, X = (w.alloc (.cells #[.int .i64 r] 3)).alloc (.cells #[.int .i64 0, .int .u64 0, .int .i64 0, .bool false] 48) := ⟨_, rfl⟩
  have hB : Below w.heap.size w X := by rw [hX]; exact below_new (below_new (Below.refl _ _) _) _
  have rr : RowAt X w.heap.size [.int .i64 r] 3 := by rw [hX]; exact (RowAt.new w [.int .i64 r] 3).alloc _
  have rs : RowAt X (w.heap.size + 1) [.int .i64 0, .int .u64 0, .int .i64 0, .bool false] 48 := by
    have h := RowAt.new (w.alloc (.cells #[.int .i64 r] 3)) [.int .i64 0, .int .u64 0, .int .i64 0, .bool false] 48
    rw [World.size_alloc] at h
    rw [hX]; exact h
  have cI := index_any l (.slice o l.length c) w.heap.size r X (HR.out _ hB) rr
  have hix := idx_find l r
  have hSt : stV (seatOf l r) = match findL l r with | some s => stV s | none => .agg #[.int .i64 0, .int .u64 0, .int .i64 0, .bool false] := by
    unfold seatOf
    cases findL l r <;> rfl
  have hIs : isIn l r = (findL l r).isSome := rfl
  rw [hSt, hIs]
  clear hSt hIs
  obtain ⟨n, hn⟩ : ∃ n, n = l.length := ⟨_, rfl⟩
  have HN : Hid (n = l.length) := hn
  rw [← hn] at HR hc1 cI ⊢
  have hni : (n : Int) ≤ 9223372036854775807 := by omega
  clear h hn rr
  have hls := RowAt.lt rs
  rcases hix with ⟨h1, h2⟩ | ⟨j, hj, h1, h2⟩
  · rw [h2]
    rw [h1] at cI
    clear h1 h2 HR
    go_enter Try.func14, Try.ntmps14
    go_upto_region 1 with fail
    rw [← hX]
    clear hX
    go_wp2_with fail
    go_at_call 35; refine cI.mono ?_; rintro e w1 ⟨rfl, hb1⟩
    have hW := below2 hB hb1
    replace rs := RowAt.below rs hb1
    clear hls
    obtain ⟨x0, x1, x2, x3, xf⟩ := cells4 rs
    have hls := RowAt.lt rs
    have hgw : w.heap.size ≤ w.heap.size + 1 := by omega
    generalize w.heap.size + 1 = gs at *
    go_wp2_with fail
    refine bodyPost_ret (v := .tuple #[.agg #[.int .i64 0, .int .u64 0, .int .i64 0, .bool false], .bool false]) ?_ rfl ⟨rfl, ?_⟩
    any_goals (rw [results_cell_tmp1 rfl]; go_simp)
    all_goals (repeat' (first | with_reducible exact hW | with_reducible apply below_drew | with_reducible refine bset ?_ (by omega)))
  · rw [h2]
    rw [h1] at cI
    show Calls Try.prog _ _ w fun e w' => e = .returned (.tuple #[.agg #[.int .i64 l[j].router, .int .u64 (l[j].seq : Int), .int .i64 l[j].time, .bool l[j].up], .bool true]) ∧ Below w.heap.size w w'
    have hjn : (j : Int) < (n : Int) := by rw [HN.out]; omega
    have q1 : decide ((j : Int) < 0) = false := decide_eq_false (by omega)
    have HCL : Hid (∀ W : World, HasSts W (.slice o n c) l → ∃ b i, o = some ⟨b, i, none⟩ ∧ b < W.heap.size ∧ W.cell? ⟨b, i + j * 4, none⟩ = some (.int .i64 l[j].router) ∧ W.cell? ⟨b, i + j * 4 + 1, none⟩ = some (.int .u64 (l[j].seq : Int)) ∧ W.cell? ⟨b, i + j * 4 + 2, none⟩ = some (.int .i64 l[j].time) ∧ W.cell? ⟨b, i + j * 4 + 3, none⟩ = some (.bool l[j].up)) := fun W h => HasSts.cell h j hj
    generalize l[j].router = ra at HCL ⊢
    generalize (l[j].seq : Int) = rb at HCL ⊢
    generalize l[j].time = rc at HCL ⊢
    generalize l[j].up = ru at HCL ⊢
    go_enter Try.func14, Try.ntmps14
    go_upto_region 1 with fail
    rw [← hX]
    clear hX
    go_wp2_with fail
    go_at_call 35; refine cI.mono ?_; rintro e w1 ⟨rfl, hb1⟩
    have hW := below2 hB hb1
    replace rs := RowAt.below rs hb1
    clear hls
    obtain ⟨x0, x1, x2, x3, xf⟩ := cells4 rs
    have hls := RowAt.lt rs
    have hgw : w.heap.size ≤ w.heap.size + 1 := by omega
    generalize w.heap.size + 1 = gs at *
    obtain ⟨g1, i1, rfl, hg1, a0, a1, a2, a3⟩ := HCL.out _ (HR.out _ hW)
    clear h1 h2 HR HCL
    go_wp2_with fail
    refine bodyPost_ret (v := .tuple #[.agg #[.int .i64 ra, .int .u64 rb, .int .i64 rc, .bool ru], .bool true]) ?_ rfl ⟨rfl, ?_⟩
    any_goals (rw [results_cell_tmp1 rfl]; go_simp)
    all_goals (repeat' (first | with_reducible exact hW | with_reducible apply below_drew | with_reducible refine bset ?_ (by omega)))
end Go.Proofs.Ytckaajadajjijab.Ord
