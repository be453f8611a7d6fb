/- The field of the addresses of a kind: what its functions tell. -/
import Derived.Test.YtmkbijnndbgjgaaSpBase
import Derived.Test.YtmkbijnndbgjgaaAddrPrev
import Derived.Laws.EntriesVeiled
set_option linter.unusedVariables false
namespace Go.Proofs.Ytmkbijnndbgjgaa.Sp
open Go.RowKit
open Go.Proofs.Ytmkbijnndbgjgaa.Addr (wideN rightB hiN loN adV cmpN nextE prevE right_any next_any prev_any cmp_any RowAt below2 below_drew below_new bset RowAt.lt RowAt.cell RowAt.frozen RowAt.below RowAt.drew RowAt.new RowAt.alloc cells2 cells4 results_cell)
set_option maxHeartbeats 1000000 in
theorem addresses_any (six : Bool) (w : World) : Calls Try.prog 71 #[.bool six] w fun e w' => ∃ g, e = .returned (fdV g) ∧ SixAt w' g six ∧ w.heap.size ≤ g ∧ Below w.heap.size w w' := by
  obtain ⟨X, hX⟩ : ∃ X, X = w.alloc (.cells #[.bool six] 4) := ⟨_, rfl⟩
  have hB : Below w.heap.size w X := by rw [hX]; exact below_new (Below.refl _ _) _
  have r0 : RowAt X w.heap.size [.bool six] 4 := by rw [hX]; exact RowAt.new _ _ _
  go_enter Try.func71, Try.ntmps71
  go_wp2_with fail
  (try simp only [Exit.inBlock, Exit.then])
  refine bodyPost_ret (v := fdV w.heap.size) ?_ rfl ⟨w.heap.size, rfl, ?_⟩
  · rw [results_cell rfl]
    go_simp
    rfl
  · rw [← hX]
    have hlt := r0.lt
    have key : ∀ Z, Below X.heap.size X Z → (SixAt Z w.heap.size six ∧ w.heap.size ≤ w.heap.size ∧ Below w.heap.size w Z) := fun Z hk => ⟨⟨(hk.cell (p := ⟨w.heap.size, 0, none⟩) hlt).trans (r0.cell 0), Nat.lt_of_lt_of_le hlt hk.size⟩, Nat.le_refl _, below2 hB hk⟩
    have hsz : X.heap.size ≤ w.heap.size + 1 := by rw [hX]; simp
    refine key _ ?_
    repeat' (first | with_reducible exact Below.refl _ _ | with_reducible apply below_new | with_reducible refine bset ?_ (by omega))
set_option maxHeartbeats 1000000 in
theorem is_any (six : Bool) (n g : Nat) (w : World) (hn : n < 2 ^ 128) (hg : SixAt w g six) : Calls Try.prog 87 #[adV n, .pointer (some ⟨g, 0, none⟩)] w fun e w' => e = .returned (.bool (rightB six n)) ∧ Below w.heap.size w w' := by
  have cr := fun w => right_any six n w hn
  obtain ⟨hg1, hg2⟩ := hg
  generalize rightB six n = R at cr ⊢
  unfold adV at *
  generalize hiN n = h at *
  generalize loN n = l at *
  clear hn
  obtain ⟨X, hX⟩ : ∃ X, X = w.alloc (.cells #[.int .u64 (h : Int), .int .u64 (l : Int)] 95) := ⟨_, rfl⟩
  have hB : Below w.heap.size w X := by rw [hX]; exact below_new (Below.refl _ _) _
  have r0 : RowAt X w.heap.size [.int .u64 (h : Int), .int .u64 (l : Int)] 95 := by rw [hX]; exact RowAt.new _ _ _
  have hg3 : X.cell? ⟨g, 0, none⟩ = some (.bool six) := (hB.cell (p := ⟨g, 0, none⟩) hg2).trans hg1
  obtain ⟨x0, x1, xf⟩ := cells2 r0
  go_enter Try.func87, Try.ntmps87
  go_upto_region 1 with fail
  rw [← hX]
  clear hX r0
  go_wp2_with fail
  go_at_call 88; refine (cr _).mono ?_; rintro e w2 ⟨rfl, hb2⟩
  have hB2 := below2 hB hb2
  go_wp2_with fail
  go_ret
  exact ⟨rfl, hB2⟩
set_option maxHeartbeats 1000000 in
theorem next1_any (six : Bool) (n g : Nat) (w : World) (hn : n < 2 ^ 128) (hg : SixAt w g six) : Calls Try.prog 90 #[adV n, .pointer (some ⟨g, 0, none⟩)] w fun e w' => e = .returned (.tuple #[adV (nextE six n).1, .bool (decide ((nextE six n).2 = 0))]) ∧ Below w.heap.size w w' := by
  have cr := fun w => next_any six n w hn
  obtain ⟨hg1, hg2⟩ := hg
  generalize (nextE six n).1 = m at cr ⊢
  generalize (nextE six n).2 = why at cr ⊢
  unfold adV at *
  generalize hiN n = h at *
  generalize loN n = l at *
  generalize hiN m = mh at *
  generalize loN m = ml at *
  clear hn
  have hbe : (why == 0) = decide (why = 0) := rfl
  obtain ⟨X, hX⟩ : ∃ X, X = (w.alloc (.cells #[.int .u64 (h : Int), .int .u64 (l : Int)] 95)).alloc (.cells #[.int .u64 0, .int .u64 0] 95) := ⟨_, rfl⟩
  have hB : Below w.heap.size w X := by rw [hX]; exact below_new (below_new (Below.refl _ _) _) _
  have r0 : RowAt X w.heap.size [.int .u64 (h : Int), .int .u64 (l : Int)] 95 := by rw [hX]; exact (RowAt.new _ _ _).alloc _
  have r1 : RowAt X (w.heap.size + 1) [.int .u64 0, .int .u64 0] 95 := by
    have h := RowAt.new (w.alloc (.cells #[.int .u64 (h : Int), .int .u64 (l : Int)] 95)) [.int .u64 0, .int .u64 0] 95
    rw [World.size_alloc] at h
    rw [hX]; exact h
  have hg3 : X.cell? ⟨g, 0, none⟩ = some (.bool six) := (hB.cell (p := ⟨g, 0, none⟩) hg2).trans hg1
  obtain ⟨x0, x1, xf⟩ := cells2 r0
  go_enter Try.func90, Try.ntmps90
  go_upto_region 1 with fail
  rw [← hX]
  clear hX r0
  go_wp2_with fail
  go_at_call 91; refine (cr _).mono ?_; rintro e w2 ⟨rfl, hb2⟩
  have hB2 := below2 hB hb2
  replace r1 := r1.below hb2
  have hlt := r1.lt
  obtain ⟨y0, y1, yf⟩ := cells2 r1
  clear hb2 cr x0 x1 xf
  obtain ⟨Z, hZ⟩ : ∃ Z, Z = w2.alloc (.cells #[.int .u64 (mh : Int), .int .u64 (ml : Int)] 95) := ⟨_, rfl⟩
  go_wp2_with fail
  (try simp only [Exit.inBlock, Exit.then])
  refine bodyPost_ret (v := .tuple #[.agg #[.int .u64 (mh : Int), .int .u64 (ml : Int)], .bool (decide (why = 0))]) ?_ rfl ⟨rfl, ?_⟩
  · rw [results_cell_tmp rfl]
    go_simp
  · repeat' (first | with_reducible exact hB2 | with_reducible apply below_new | with_reducible refine bset ?_ (by omega))
set_option maxHeartbeats 1000000 in
theorem prev1_any (six : Bool) (n g : Nat) (w : World) (hn : n < 2 ^ 128) (hg : SixAt w g six) : Calls Try.prog 92 #[adV n, .pointer (some ⟨g, 0, none⟩)] w fun e w' => e = .returned (.tuple #[adV (prevE six n).1, .bool (decide ((prevE six n).2 = 0))]) ∧ Below w.heap.size w w' := by
  have cr := fun w => prev_any six n w hn
  obtain ⟨hg1, hg2⟩ := hg
  generalize (prevE six n).1 = m at cr ⊢
  generalize (prevE six n).2 = why at cr ⊢
  unfold adV at *
  generalize hiN n = h at *
  generalize loN n = l at *
  generalize hiN m = mh at *
  generalize loN m = ml at *
  clear hn
  have hbe : (why == 0) = decide (why = 0) := rfl
  obtain ⟨X, hX⟩ : ∃ X, X = (w.alloc (.cells #[.int .u64 (h : Int), .int .u64 (l : Int)] 95)).alloc (.cells #[.int .u64 0, .int .u64 0] 95) := ⟨_, rfl⟩
  have hB : Below w.heap.size w X := by rw [hX]; exact below_new (below_new (Below.refl _ _) _) _
  have r0 : RowAt X w.heap.size [.int .u64 (h : Int), .int .u64 (l : Int)] 95 := by rw [hX]; exact (RowAt.new _ _ _).alloc _
  have r1 : RowAt X (w.heap.size + 1) [.int .u64 0, .int .u64 0] 95 := by
    have h := RowAt.new (w.alloc (.cells #[.int .u64 (h : Int), .int .u64 (l : Int)] 95)) [.int .u64 0, .int .u64 0] 95
    rw [World.size_alloc] at h
    rw [hX]; exact h
  have hg3 : X.cell? ⟨g, 0, none⟩ = some (.bool six) := (hB.cell (p := ⟨g, 0, none⟩) hg2).trans hg1
  obtain ⟨x0, x1, xf⟩ := cells2 r0
  go_enter Try.func92, Try.ntmps92
  go_upto_region 1 with fail
  rw [← hX]
  clear hX r0
  go_wp2_with fail
  go_at_call 93; refine (cr _).mono ?_; rintro e w2 ⟨rfl, hb2⟩
  have hB2 := below2 hB hb2
  replace r1 := r1.below hb2
  have hlt := r1.lt
  obtain ⟨y0, y1, yf⟩ := cells2 r1
  clear hb2 cr x0 x1 xf
  obtain ⟨Z, hZ⟩ : ∃ Z, Z = w2.alloc (.cells #[.int .u64 (mh : Int), .int .u64 (ml : Int)] 95) := ⟨_, rfl⟩
  go_wp2_with fail
  (try simp only [Exit.inBlock, Exit.then])
  refine bodyPost_ret (v := .tuple #[.agg #[.int .u64 (mh : Int), .int .u64 (ml : Int)], .bool (decide (why = 0))]) ?_ rfl ⟨rfl, ?_⟩
  · rw [results_cell_tmp rfl]
    go_simp
  · repeat' (first | with_reducible exact hB2 | with_reducible apply below_new | with_reducible refine bset ?_ (by omega))
end Go.Proofs.Ytmkbijnndbgjgaa.Sp
