/- The trie of routes: trie.grown$1, trie.under. -/
import Derived.Test.YtklbnnnkogghpaaTrNode
import Derived.Test.YtklbnnnkogghpaaTrRows
import Derived.Test.YtklbnnnkogghpaaAddrHalves
import Derived.Deep.RegionHeld3
set_option linter.unusedVariables false
namespace Go.Proofs.Ytklbnnnkogghpaa.Tr
open Go.RowKit
open Go.Proofs.Ytklbnnnkogghpaa.Lk (HasRow)
open Go.Proofs.Ytklbnnnkogghpaa.Addr (Pf okP wideN kP hasB coversB hiN loN pfV covers_any results_cell RowAt below2 below_drew below_new bset RowAt.lt RowAt.cell RowAt.frozen RowAt.below RowAt.drew RowAt.new RowAt.alloc RowAt.gkeep cells4 Bl bl_ne wp_region_bl bl_call bl_same)
attribute [-go_sem] Builtin.append_
set_option maxHeartbeats 4000000 in
set_option maxRecDepth 20000 in
theorem grown1_walk (s0 : Bool) (s1 s2 s3 s4 s5 : Int) (w : World) : Calls Try.prog 67 #[.agg #[.bool s0, .int .u64 s1, .int .u64 s2, .int .i64 s3, .int .u8 s4, .int .i64 s5]] w fun e w' => e = .returned (.agg #[.bool s0, .int .u64 s1, .int .u64 s2, .int .i64 s3]) ∧ Below w.heap.size w w' := by
  obtain ⟨X, hX⟩ : ∃ X, X = (w.alloc (.cells #[.bool s0, .int .u64 s1, .int .u64 s2, .int .i64 s3, .int .u8 s4, .int .i64 s5] 61)).alloc (.cells #[.bool false, .int .u64 0, .int .u64 0, .int .i64 0] 38) := ⟨_, rfl⟩
  have hB : Below w.heap.size w X := by rw [hX]; exact below_new (below_new (Below.refl _ _) _) _
  have r0 : RowAt X w.heap.size [.bool s0, .int .u64 s1, .int .u64 s2, .int .i64 s3, .int .u8 s4, .int .i64 s5] 61 := by rw [hX]; exact (RowAt.new _ _ _).alloc _
  have r1 : RowAt X (w.heap.size + 1) [.bool false, .int .u64 0, .int .u64 0, .int .i64 0] 38 := by rw [hX, ← World.size_alloc w (.cells #[.bool s0, .int .u64 s1, .int .u64 s2, .int .i64 s3, .int .u8 s4, .int .i64 s5] 61)]; exact RowAt.new _ _ _
  have y0 := r0.cell 0
  have y1 := r0.cell 1
  have y2 := r0.cell 2
  have y3 := r0.cell 3
  simp only [List.getElem?_cons_zero, List.getElem?_cons_succ] at y0 y1 y2 y3
  obtain ⟨z0, z1, z2, z3, zf⟩ := cells4 r1
  have hlt := r1.lt
  go_enter Try.func67, Try.ntmps67
  go_upto_region 1 with fail
  rw [← hX]
  clear hX r0 r1
  go_wp2_with fail
  (try simp only [Exit.inBlock, Exit.then])
  refine bodyPost_ret (v := .agg #[.bool s0, .int .u64 s1, .int .u64 s2, .int .i64 s3]) ?_ rfl ⟨rfl, bset (bset (bset (bset hB (by omega)) (by omega)) (by omega)) (by omega)⟩
  rw [results_cell rfl]
  go_simp
theorem info_nd : (Try.prog.info? 123).map (fun i => (i.zero, i.size, i.bytes)) = some (some (.agg #[.bool false, .int .u64 0, .int .u64 0, .int .i64 0, .bool false, .int .u64 0, .int .u64 0, .int .i64 0, .int .u8 0, .int .i64 0, .slice none 0 0]), 11, 104) := by kernel_rfl
set_option maxRecDepth 20000 in
/-- one node more at a row's end -/
theorem append_node {W : World} {n₀ k : Nat} {v : Value} {xs : List Value} (r : Rt) (o : Option Addr) (n c : Nat) (hown : W.ownsRow n₀ 123 11 v k xs) (hk : k ≤ 1000) (hn : n₀ ≤ W.heap.size) :
    ∃ g cap w3, (∀ ty, (Builtin.append_ #[121, 121] ty #[v, .slice (some ⟨W.heap.size, 0, none⟩) 1 1]).run Try.prog (W.alloc (.cells (nodeC r (.slice o n c)).toArray 123)) = .ok (.slice (some ⟨g, 0, none⟩) (k + 1) cap) w3) ∧
      w3.ownsRow n₀ 123 11 (.slice (some ⟨g, 0, none⟩) (k + 1) cap) (k + 1) (xs ++ nodeC r (.slice o n c)) ∧ (W.alloc (.cells (nodeC r (.slice o n c)).toArray 123)).grownBy w3 v.ownBlock ∧ (v.ownBlock = some g ∨ W.heap.size < g) := by
  obtain ⟨i0, hi, hz0, hz1, hz2⟩ := info_parts info_nd
  have hrow := RowAt.new W (nodeC r (.slice o n c)) 123
  have hsz : (W.alloc (.cells (nodeC r (.slice o n c)).toArray 123)).heap.size = W.heap.size + 1 := World.size_alloc _ _
  have hnews : ∀ j u, (nodeC r (.slice o n c))[j]? = some u → (W.alloc (.cells (nodeC r (.slice o n c)).toArray 123)).cell? ((⟨W.heap.size, 0, none⟩ : Addr).add j) = some u := fun j u hj => by rw [Lk.addr_add, Nat.zero_add]; exact (hrow.cell j).trans hj
  have h1c : ∀ u ∈ nodeC r (.slice o n c), u.oneCell' = true := by
    intro u hu
    simp only [nodeC, pfC, rtC, List.cons_append, List.nil_append, List.mem_cons, List.not_mem_nil, or_false] at hu
    rcases hu with rfl | rfl | rfl | rfl | rfl | rfl | rfl | rfl | rfl | rfl | rfl <;> rfl
  obtain ⟨W1, hW1⟩ : ∃ W1, W1 = W.alloc (.cells (nodeC r (.slice o n c)).toArray 123) := ⟨_, rfl⟩
  have hown1 : W1.ownsRow n₀ 123 11 v k xs := by rw [hW1]; exact hown.alloc _
  rw [← hW1] at hnews hsz ⊢
  have h := fun ty => run_append_own (P := Try.prog) W1 n₀ 121 ty 123 i0 _ 11 104 Try.underlying121 hi hz0 hz1 hz2 rfl (by decide) v k xs hown1 ⟨W.heap.size, 0, none⟩ 1 1 (nodeC r (.slice o n c)) rfl hnews h1c (by unfold maxLen; omega) (by omega) (by omega)
  obtain ⟨v', w3, hrun, h1, h2, h3⟩ := h 0
  obtain ⟨g, cap, rfl⟩ : ∃ g cap, v' = .slice (some ⟨g, 0, none⟩) (k + 1) cap := by
    rcases h1.2 with ⟨_, h0⟩ | ⟨g, cap, cur, e, _⟩
    · omega
    · exact ⟨g, cap, e⟩
  refine ⟨g, cap, w3, fun ty => hrun, h1, h2, ?_⟩
  rcases hown1.2 with ⟨rfl, rfl⟩ | ⟨g0, cap0, cur, rfl, hbg, hg, hnc, hcm, hcs, htk⟩
  · right
    have hr := run_append_nil (P := Try.prog) W1 121 0 123 i0 _ Try.underlying121 hi hz0 ⟨W.heap.size, 0, none⟩ 1 1 (nodeC r (.slice o n c)) (by rw [hz1]; rfl) hnews (by omega) (by omega) (by rw [hz2]; omega)
    have e := hrun.symm.trans hr
    injection e with e1 e2
    injection e1 with e1
    injection e1 with e1
    injection e1 with e1
    omega
  · by_cases hroom : k + 1 ≤ cap0
    · left
      have hfit : k * i0.size + (nodeC r (.slice o n c)).length ≤ cur.size := by rw [hz1, nodeC_len, hcs]; have := Nat.mul_le_mul_right 11 hroom; omega
      have hr := run_append_room (P := Try.prog) W1 121 0 123 i0 Try.underlying121 hi g0 k cap0 cur hg ⟨W.heap.size, 0, none⟩ 1 1 (nodeC r (.slice o n c)) (by rw [hz1]; rfl) hnews h1c hroom hfit
      have e := hrun.symm.trans hr
      injection e with e1 e2
      injection e1 with e1
      injection e1 with e1
      injection e1 with e1
      rw [e1]
      rfl
    · right
      have hr := run_append_grow (P := Try.prog) W1 121 0 123 i0 _ Try.underlying121 hi hz0 ⟨g0, 0, none⟩ k cap0 xs (by rw [hz1]; exact hown1.1) (hown1.cells (g := g0) rfl) ⟨W.heap.size, 0, none⟩ 1 1 (nodeC r (.slice o n c)) (by rw [hz1]; rfl) hnews (by omega) (by omega) (growslice_fits (by omega) (by rw [hz2]; omega))
      have e := hrun.symm.trans hr
      injection e with e1 e2
      injection e1 with e1
      injection e1 with e1
      injection e1 with e1
      omega
end Go.Proofs.Ytklbnnnkogghpaa.Tr
