/- Rows of spans, and of runs, that a call makes; what span.runs and span.told answer. -/
import Derived.Test.YtmkbijnndbgjgaaSpField2
import Derived.Deep.AppendLies
import Derived.Laws.MakeOwn
set_option linter.unusedVariables false
namespace Go.Proofs.Ytmkbijnndbgjgaa.Sp
open Go.RowKit
open Go.Proofs.Ytmkbijnndbgjgaa.Lk (HasRow hasRow_own addr_add)
open Go.Proofs.Ytmkbijnndbgjgaa.Addr (wideN rightB hiN loN adV cmpN nextE prevE cmp_any cmp_le RowAt below2 below_drew below_new bset RowAt.lt RowAt.cell RowAt.frozen RowAt.below RowAt.drew RowAt.new RowAt.alloc cells2 cells4 results_cell gset grefl)
attribute [-go_sem] Builtin.append_
theorem info_parts {e sz by' : Nat} {z : Value} (h : (Try.prog.info? e).map (fun i => (i.zero, i.size, i.bytes)) = some (some z, sz, by')) : ∃ i, Try.prog.info? e = some i ∧ i.zero = some z ∧ i.size = sz ∧ i.bytes = by' := by
  cases hi : Try.prog.info? e with
  | none => rw [hi] at h; cases h
  | some i =>
    rw [hi] at h
    simp only [Option.map_some, Option.some.injEq, Prod.mk.injEq] at h
    exact ⟨i, rfl, h.1, h.2.1, h.2.2⟩
theorem own_below {W W' : World} {m e size k : Nat} {v : Value} {xs : List Value} (h : W.ownsRow m e size v k xs) (hb : Below W.heap.size W W') : W'.ownsRow m e size v k xs := by
  refine ⟨h.1, ?_⟩
  rcases h.2 with h0 | ⟨g, cap, cur, e1, hg, hgb, rest⟩
  · exact .inl h0
  · exact .inr ⟨g, cap, cur, e1, hg, by rw [hb.block g (Array.getElem?_eq_some_iff.1 hgb).1]; exact hgb, rest⟩
/-- a row of the call's own, all of it in new memory -/
structure Own1 (w W : World) (e : Nat) (u : Value) (a : List Sp) : Prop where
  ou : W.ownsRow w.heap.size e 4 u a.length (spCs a)
  bl : Below w.heap.size w W
theorem Own1.below {w W W' : World} {e : Nat} {u : Value} {a : List Sp} (h : Own1 w W e u a) (hb : Below W.heap.size W W') : Own1 w W' e u a := ⟨own_below h.ou hb, below2 h.bl hb⟩
theorem Own1.has {w W : World} {e : Nat} {u : Value} {a : List Sp} (h : Own1 w W e u a) : HasSps W u a := hasRow_own h.ou
theorem Own1.nil (w : World) (e : Nat) : Own1 w w e (.slice none 0 0) [] := ⟨World.ownsRow_nil _ _ _ _, Below.refl _ _⟩
theorem Own1.to {w w1 W : World} {e : Nat} {u : Value} {a : List Sp} (h : Own1 w1 W e u a) (hb : Below w.heap.size w w1) : Own1 w W e u a := by
  refine ⟨⟨h.ou.1, ?_⟩, below2 hb h.bl⟩
  rcases h.ou.2 with h0 | ⟨g, cap, cur, e1, hg, rest⟩
  · exact .inl h0
  · exact .inr ⟨g, cap, cur, e1, Nat.le_trans hb.size hg, rest⟩
theorem lit_sp (W : World) (e : Nat) (x : Sp) : HasSps (W.alloc (.cells #[.int .u64 (hiN x.1 : Int), .int .u64 (loN x.1 : Int), .int .u64 (hiN x.2 : Int), .int .u64 (loN x.2 : Int)] e)) (.slice (some ⟨W.heap.size, 0, none⟩) 1 1) [x] := by
  refine ⟨rfl, .inr ⟨⟨W.heap.size, 0, none⟩, 1, rfl, Nat.le_refl _, by decide, fun _ => ⟨rfl, by simp⟩, fun j hj => ?_⟩⟩
  rw [addr_add, Nat.zero_add]
  exact (RowAt.new W (spC x) e).cell j
theorem info_R : (Try.prog.info? 130).map (fun i => (i.zero, i.size, i.bytes)) = some (some (.agg #[.int .u64 0, .int .u64 0, .int .u64 0, .int .u64 0]), 4, 32) := by kernel_rfl
theorem app_R {w W : World} {u : Value} {a : List Sp} (h : Own1 w W 130 u a) (x : Sp) (hb : a.length ≤ 1000000) :
    ∃ g cap w3, (∀ ty, (Builtin.append_ #[118, 118] ty #[u, .slice (some ⟨W.heap.size, 0, none⟩) 1 1]).run Try.prog (W.alloc (.cells #[.int .u64 (hiN x.1 : Int), .int .u64 (loN x.1 : Int), .int .u64 (hiN x.2 : Int), .int .u64 (loN x.2 : Int)] 130)) = .ok (.slice (some ⟨g, 0, none⟩) (a ++ [x]).length cap) w3) ∧ Own1 w w3 130 (.slice (some ⟨g, 0, none⟩) (a ++ [x]).length cap) (a ++ [x]) ∧ (u.ownBlock = some g ∨ W.heap.size + 1 ≤ g) ∧ g < w3.heap.size ∧ (W.alloc (.cells #[.int .u64 (hiN x.1 : Int), .int .u64 (loN x.1 : Int), .int .u64 (hiN x.2 : Int), .int .u64 (loN x.2 : Int)] 130)).grownBy w3 u.ownBlock := by
  obtain ⟨i0, hi0, hz0, hz1, hz2⟩ := info_parts info_R
  have hx := lit_sp W 130 x
  have hk := h.below (below_new (Below.refl _ W) (.cells #[.int .u64 (hiN x.1 : Int), .int .u64 (loN x.1 : Int), .int .u64 (hiN x.2 : Int), .int .u64 (loN x.2 : Int)] 130))
  have hsz : (W.alloc (.cells #[.int .u64 (hiN x.1 : Int), .int .u64 (loN x.1 : Int), .int .u64 (hiN x.2 : Int), .int .u64 (loN x.2 : Int)] 130)).heap.size = W.heap.size + 1 := World.size_alloc _ _
  rw [← hsz]
  obtain ⟨V, hV⟩ : ∃ V, V = W.alloc (.cells #[.int .u64 (hiN x.1 : Int), .int .u64 (loN x.1 : Int), .int .u64 (hiN x.2 : Int), .int .u64 (loN x.2 : Int)] 130) := ⟨_, rfl⟩
  rw [← hV] at hx hk ⊢
  obtain ⟨b, hbe⟩ : ∃ b, b = W.heap.size := ⟨_, rfl⟩
  rw [← hbe] at hx ⊢
  clear hV hsz hbe
  rcases hx.2 with ⟨h0, _⟩ | ⟨a0, cap, e0, g1, g2, g3, g4⟩
  · cases h0
  · injection e0 with e1 e2 e3
    injection e1 with e1
    subst e1 e3
    have hh := fun ty => run_append_lies (P := Try.prog) (w := V) 118 ty w.heap.size 130 i0 (.agg #[.int .u64 0, .int .u64 0, .int .u64 0, .int .u64 0]) 4 32 Try.underlying118 hi0 hz0 hz1 hz2 rfl (by decide) u a.length (spCs a) hk.ou ⟨b, 0, none⟩ 1 1 (spCs [x]) hx.1
      (fun j y hj => by rw [g4 j (by have := hx.1; rw [← this]; exact (List.getElem?_eq_some_iff.1 hj).1)]; exact hj) (one_sps [x]) (by decide) (by unfold maxLen; omega) (by omega) hk.bl.size V.heap.size rfl
    obtain ⟨g, c2, w3, hrun, k1, k2, k3, k4⟩ := hh 0
    rw [show a.length + 1 = (a ++ [x]).length by simp, ← spCs_app] at k1
    rw [show a.length + 1 = (a ++ [x]).length by simp] at hrun
    refine ⟨g, c2, w3, fun ty => hrun, ⟨k1, hk.bl.grown k2 hk.bl.size (fun k e => (hk.ou.lt k e).1)⟩, ?_, k4, k2⟩
    rcases k3 with k3 | k3
    · exact .inl k3
    · exact .inr (by omega)
theorem make_R (w : World) (n : Nat) (h : n ≤ 1000000) : ∃ C : Array Value, C.size = n * 4 ∧ ∀ kl kc : IntKind, (Instr.makeSlice 118 (.int kl 0) (.int kc (n : Int))).run Try.prog w = .ok (.slice (some ⟨w.heap.size, 0, none⟩) 0 n) (w.alloc (.cells C 130)) := by
  obtain ⟨i0, hi, hz0, hz1, hz2⟩ := info_parts info_R
  refine ⟨madeCells (Value.agg #[.int .u64 0, .int .u64 0, .int .u64 0, .int .u64 0]).cells (n * 4), by simp [madeCells], fun kl kc => ?_⟩
  have hr := run_make (P := Try.prog) w 118 130 i0 (.agg #[.int .u64 0, .int .u64 0, .int .u64 0, .int .u64 0]) Try.underlying118 hi hz0 kl kc 0 n (by omega) (by omega) (by rw [hz2]; omega) (by omega)
  rw [hr, hz1, Int.toNat_natCast]
  rfl
theorem info_S : (Try.prog.info? 115).map (fun i => (i.zero, i.size, i.bytes)) = some (some (.agg #[.int .u64 0, .int .u64 0, .int .u64 0, .int .u64 0]), 4, 32) := by kernel_rfl
theorem app_S {w W : World} {u : Value} {a : List Sp} (h : Own1 w W 115 u a) (x : Sp) (hb : a.length ≤ 1000000) :
    ∃ g cap w3, (∀ ty, (Builtin.append_ #[88, 88] ty #[u, .slice (some ⟨W.heap.size, 0, none⟩) 1 1]).run Try.prog (W.alloc (.cells #[.int .u64 (hiN x.1 : Int), .int .u64 (loN x.1 : Int), .int .u64 (hiN x.2 : Int), .int .u64 (loN x.2 : Int)] 115)) = .ok (.slice (some ⟨g, 0, none⟩) (a ++ [x]).length cap) w3) ∧ Own1 w w3 115 (.slice (some ⟨g, 0, none⟩) (a ++ [x]).length cap) (a ++ [x]) ∧ (u.ownBlock = some g ∨ W.heap.size + 1 ≤ g) ∧ g < w3.heap.size ∧ (W.alloc (.cells #[.int .u64 (hiN x.1 : Int), .int .u64 (loN x.1 : Int), .int .u64 (hiN x.2 : Int), .int .u64 (loN x.2 : Int)] 115)).grownBy w3 u.ownBlock := by
  obtain ⟨i0, hi0, hz0, hz1, hz2⟩ := info_parts info_S
  have hx := lit_sp W 115 x
  have hk := h.below (below_new (Below.refl _ W) (.cells #[.int .u64 (hiN x.1 : Int), .int .u64 (loN x.1 : Int), .int .u64 (hiN x.2 : Int), .int .u64 (loN x.2 : Int)] 115))
  have hsz : (W.alloc (.cells #[.int .u64 (hiN x.1 : Int), .int .u64 (loN x.1 : Int), .int .u64 (hiN x.2 : Int), .int .u64 (loN x.2 : Int)] 115)).heap.size = W.heap.size + 1 := World.size_alloc _ _
  rw [← hsz]
  obtain ⟨V, hV⟩ : ∃ V, V = W.alloc (.cells #[.int .u64 (hiN x.1 : Int), .int .u64 (loN x.1 : Int), .int .u64 (hiN x.2 : Int), .int .u64 (loN x.2 : Int)] 115) := ⟨_, rfl⟩
  rw [← hV] at hx hk ⊢
  obtain ⟨b, hbe⟩ : ∃ b, b = W.heap.size := ⟨_, rfl⟩
  rw [← hbe] at hx ⊢
  clear hV hsz hbe
  rcases hx.2 with ⟨h0, _⟩ | ⟨a0, cap, e0, g1, g2, g3, g4⟩
  · cases h0
  · injection e0 with e1 e2 e3
    injection e1 with e1
    subst e1 e3
    have hh := fun ty => run_append_lies (P := Try.prog) (w := V) 88 ty w.heap.size 115 i0 (.agg #[.int .u64 0, .int .u64 0, .int .u64 0, .int .u64 0]) 4 32 Try.underlying88 hi0 hz0 hz1 hz2 rfl (by decide) u a.length (spCs a) hk.ou ⟨b, 0, none⟩ 1 1 (spCs [x]) hx.1
      (fun j y hj => by rw [g4 j (by have := hx.1; rw [← this]; exact (List.getElem?_eq_some_iff.1 hj).1)]; exact hj) (one_sps [x]) (by decide) (by unfold maxLen; omega) (by omega) hk.bl.size V.heap.size rfl
    obtain ⟨g, c2, w3, hrun, k1, k2, k3, k4⟩ := hh 0
    rw [show a.length + 1 = (a ++ [x]).length by simp, ← spCs_app] at k1
    rw [show a.length + 1 = (a ++ [x]).length by simp] at hrun
    refine ⟨g, c2, w3, fun ty => hrun, ⟨k1, hk.bl.grown k2 hk.bl.size (fun k e => (hk.ou.lt k e).1)⟩, ?_, k4, k2⟩
    rcases k3 with k3 | k3
    · exact .inl k3
    · exact .inr (by omega)
theorem make_S (w : World) (n : Nat) (h : n ≤ 1000000) : ∃ C : Array Value, C.size = n * 4 ∧ ∀ kl kc : IntKind, (Instr.makeSlice 88 (.int kl 0) (.int kc (n : Int))).run Try.prog w = .ok (.slice (some ⟨w.heap.size, 0, none⟩) 0 n) (w.alloc (.cells C 115)) := by
  obtain ⟨i0, hi, hz0, hz1, hz2⟩ := info_parts info_S
  refine ⟨madeCells (Value.agg #[.int .u64 0, .int .u64 0, .int .u64 0, .int .u64 0]).cells (n * 4), by simp [madeCells], fun kl kc => ?_⟩
  have hr := run_make (P := Try.prog) w 88 115 i0 (.agg #[.int .u64 0, .int .u64 0, .int .u64 0, .int .u64 0]) Try.underlying88 hi hz0 kl kc 0 n (by omega) (by omega) (by rw [hz2]; omega) (by omega)
  rw [hr, hz1, Int.toNat_natCast]
  rfl
set_option maxHeartbeats 8000000 in
set_option maxRecDepth 20000 in
theorem runs_any (l : List Sp) (v : Value) (w : World) (hl : HasSps w v l) (hlen : l.length ≤ 1000000) :
    Calls Try.prog 73 #[v] w fun e w' => ∃ u, e = .returned u ∧ Own1 w w' 130 u l := by
  obtain ⟨o, c, rfl, hc1, hc2⟩ := HasRow.slice hl
  have HR : Hid (∀ wr : World, Below w.heap.size w wr → HasSps wr (.slice o l.length c) l) := fun wr hb => hl.keep hb
  obtain ⟨n, hn⟩ : ∃ n, n = l.length := ⟨_, rfl⟩
  have HN : Hid (n = l.length) := hn
  rw [← hn] at HR hc1 hlen ⊢
  have hni : (n : Int) ≤ 1000000 := by omega
  clear hl hn
  obtain ⟨C, hC, hmk⟩ := make_R w n (by omega)
  obtain ⟨w1, hw1⟩ : ∃ w1, w1 = w.alloc (.cells C 130) := ⟨_, rfl⟩
  have H0 : Hid (Own1 w w1 130 (.slice (some ⟨w.heap.size, 0, none⟩) 0 n) (l.take 0)) := ⟨by rw [hw1]; exact World.ownsRow_made w C n (Nat.le_refl _) (by unfold maxLen; omega) hC, by rw [hw1]; exact below_new (Below.refl _ _) _⟩
  rw [← hw1] at hmk
  obtain ⟨g0, hg0⟩ : ∃ g0, g0 = w.heap.size := ⟨_, rfl⟩
  rw [← hg0] at hmk H0
  have HG0 : Hid (g0 = w.heap.size) := hg0
  clear hw1 hC hg0
  go_enter Try.func73, Try.ntmps73
  go_wp2_with fail
  go_loopw [3, 11] (fun u q wr => ∃ k : Nat, k ≤ n ∧ q = .int .i64 k ∧ Hid (Own1 w wr 130 u (l.take k))) (fun _ q _ => n - (intOf q).toNat)
  case atStart => exact ⟨0, by omega, rfl, H0⟩
  case round =>
    obtain ⟨k, hk, rfl, HI⟩ := hrel
    have hI := HI.out
    by_cases hlt : k < n
    · have hkz : k < l.length := by rw [← HN.out]; exact hlt
      obtain ⟨g1, i1, rfl, hg1, a0, a1, a2, a3⟩ := HasSps.cell (HR.out _ hI.bl) k hkz
      have HA : Hid (l.take (k + 1) = l.take k ++ [l[k]]) := List.take_succ_eq_append_getElem hkz
      have hki : (k : Int) < (n : Int) := by omega
      have htk : (l.take k).length ≤ 1000000 := by rw [List.length_take]; omega
      obtain ⟨x, hx⟩ : ∃ x : Sp, x = l[k] := ⟨_, rfl⟩
      rw [← hx] at HA a0 a1 a2 a3
      clear hx HI hg1
      go_upto_region 5 with fail
      obtain ⟨X, hX⟩ : ∃ X, X = wr.alloc (.cells #[.int .u64 (hiN x.1 : Int), .int .u64 (loN x.1 : Int), .int .u64 (hiN x.2 : Int), .int .u64 (loN x.2 : Int)] 115) := ⟨_, rfl⟩
      have hbX : Below wr.heap.size wr X := by rw [hX]; exact below_new (Below.refl _ _) _
      have r0 : RowAt X wr.heap.size [.int .u64 (hiN x.1 : Int), .int .u64 (loN x.1 : Int), .int .u64 (hiN x.2 : Int), .int .u64 (loN x.2 : Int)] 115 := by rw [hX]; exact RowAt.new _ _ _
      rw [← hX]
      replace hI := hI.below hbX
      clear hX hbX a0 a1 a2 a3
      generalize wr.heap.size = gs at r0 ⊢
      obtain ⟨y0, y1, y2, y3, yf⟩ := cells4 r0
      obtain ⟨g, cap, w3, hrun, hO, _⟩ := app_R hI x htk
      have HO : Hid (Own1 w w3 130 (.slice (some ⟨g, 0, none⟩) (l.take k ++ [x]).length cap) (l.take (k + 1))) := by
        show Own1 _ _ _ _ _
        rw [HA.out]; exact hO
      clear hO hI HA htk
      generalize (l.take k ++ [x]).length = m at hrun HO
      generalize hiN x.1 = x1 at *
      generalize loN x.1 = x2 at *
      generalize hiN x.2 = x3 at *
      generalize loN x.2 = x4 at *
      go_wp2_with fail
      go_roundw
      case rel => exact ⟨k + 1, by omega, by go_num, HO⟩
      case measure => simp [intOf]; omega
    · have hkn : decide ((k : Int) < (n : Int)) = false := decide_eq_false (by omega)
      have hte : l.take k = l := by have := HN.out; exact List.take_of_length_le (by omega)
      have HF : Hid (Own1 w wr 130 u3 l) := by rw [hte] at hI; exact hI
      clear hte hI HI
      go_wp2_with fail
      go_ret
      exact ⟨u3, rfl, HF.out⟩
set_option maxHeartbeats 8000000 in
set_option maxRecDepth 20000 in
theorem toldF_any (l : List Sp) (v : Value) (w : World) (hl : HasSps w v l) (hlen : l.length ≤ 1024) :
    Calls Try.prog 70 #[v] w fun e w' => ∃ u, e = .returned (.tuple #[u, .int .i64 0]) ∧ Own1 w w' 115 u l := by
  obtain ⟨o, c, rfl, hc1, hc2⟩ := HasRow.slice hl
  have HR : Hid (∀ wr : World, Below w.heap.size w wr → HasSps wr (.slice o l.length c) l) := fun wr hb => hl.keep hb
  obtain ⟨n, hn⟩ : ∃ n, n = l.length := ⟨_, rfl⟩
  have HN : Hid (n = l.length) := hn
  rw [← hn] at HR hc1 hlen ⊢
  have hni : (n : Int) ≤ 1024 := by omega
  clear hl hn
  obtain ⟨C, hC, hmk⟩ := make_S w n (by omega)
  obtain ⟨w1, hw1⟩ : ∃ w1, w1 = w.alloc (.cells C 115) := ⟨_, rfl⟩
  have H0 : Hid (Own1 w w1 115 (.slice (some ⟨w.heap.size, 0, none⟩) 0 n) (l.take 0)) := ⟨by rw [hw1]; exact World.ownsRow_made w C n (Nat.le_refl _) (by unfold maxLen; omega) hC, by rw [hw1]; exact below_new (Below.refl _ _) _⟩
  rw [← hw1] at hmk
  obtain ⟨g0, hg0⟩ : ∃ g0, g0 = w.heap.size := ⟨_, rfl⟩
  rw [← hg0] at hmk H0
  have HG0 : Hid (g0 = w.heap.size) := hg0
  clear hw1 hC hg0
  go_enter Try.func70, Try.ntmps70
  go_wp2_with fail
  go_loopw [4, 15] (fun u q wr => ∃ k : Nat, k ≤ n ∧ q = .int .i64 k ∧ Hid (Own1 w wr 115 u (l.take k))) (fun _ q _ => n - (intOf q).toNat)
  case atStart => exact ⟨0, by omega, rfl, H0⟩
  case round =>
    obtain ⟨k, hk, rfl, HI⟩ := hrel
    have hI := HI.out
    by_cases hlt : k < n
    · have hkz : k < l.length := by rw [← HN.out]; exact hlt
      obtain ⟨g1, i1, rfl, hg1, a0, a1, a2, a3⟩ := HasSps.cell (HR.out _ hI.bl) k hkz
      have HA : Hid (l.take (k + 1) = l.take k ++ [l[k]]) := List.take_succ_eq_append_getElem hkz
      have hki : (k : Int) < (n : Int) := by omega
      have htk : (l.take k).length ≤ 1000000 := by rw [List.length_take]; omega
      obtain ⟨x, hx⟩ : ∃ x : Sp, x = l[k] := ⟨_, rfl⟩
      rw [← hx] at HA a0 a1 a2 a3
      clear hx HI hg1
      go_upto_region 7 with fail
      obtain ⟨X, hX⟩ : ∃ X, X = wr.alloc (.cells #[.int .u64 (hiN x.1 : Int), .int .u64 (loN x.1 : Int), .int .u64 (hiN x.2 : Int), .int .u64 (loN x.2 : Int)] 130) := ⟨_, rfl⟩
      have hbX : Below wr.heap.size wr X := by rw [hX]; exact below_new (Below.refl _ _) _
      have r0 : RowAt X wr.heap.size [.int .u64 (hiN x.1 : Int), .int .u64 (loN x.1 : Int), .int .u64 (hiN x.2 : Int), .int .u64 (loN x.2 : Int)] 130 := by rw [hX]; exact RowAt.new _ _ _
      rw [← hX]
      replace hI := hI.below hbX
      clear hX hbX a0 a1 a2 a3
      generalize wr.heap.size = gs at r0 ⊢
      obtain ⟨y0, y1, y2, y3, yf⟩ := cells4 r0
      obtain ⟨g, cap, w3, hrun, hO, _⟩ := app_S hI x htk
      have HO : Hid (Own1 w w3 115 (.slice (some ⟨g, 0, none⟩) (l.take k ++ [x]).length cap) (l.take (k + 1))) := by
        show Own1 _ _ _ _ _
        rw [HA.out]; exact hO
      clear hO hI HA htk
      generalize (l.take k ++ [x]).length = m at hrun HO
      generalize hiN x.1 = x1 at *
      generalize loN x.1 = x2 at *
      generalize hiN x.2 = x3 at *
      generalize loN x.2 = x4 at *
      go_wp2_with fail
      go_roundw
      case rel => exact ⟨k + 1, by omega, by go_num, HO⟩
      case measure => simp [intOf]; omega
    · have hkn : decide ((k : Int) < (n : Int)) = false := decide_eq_false (by omega)
      have hte : l.take k = l := by have := HN.out; exact List.take_of_length_le (by omega)
      have HF : Hid (Own1 w wr 115 u4 l) := by rw [hte] at hI; exact hI
      clear hte hI HI
      go_wp2_with fail
      go_ret2
      exact ⟨u4, rfl, HF.out⟩
theorem toldB_any (l : List Sp) (v : Value) (w : World) (hl : HasSps w v l) (hlen : 1024 < l.length) :
    Calls Try.prog 70 #[v] w fun e w' => e = .returned (.tuple #[.slice none 0 0, .int .i64 11]) ∧ w' = w := by
  obtain ⟨o, c, rfl, hc1, hc2⟩ := HasRow.slice hl
  have hq1 : decide ((1024 : Int) < (l.length : Int)) = true := decide_eq_true (by omega)
  have hq2 : decide (1024 < l.length) = true := decide_eq_true hlen
  generalize l.length = n at *
  clear hl
  go_enter Try.func70, Try.ntmps70
  go_wp2_with fail
  go_ret2
  exact ⟨rfl, rfl⟩
end Go.Proofs.Ytmkbijnndbgjgaa.Sp
