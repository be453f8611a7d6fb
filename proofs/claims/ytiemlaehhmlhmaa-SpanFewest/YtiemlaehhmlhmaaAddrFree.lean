/- What addr.free and addr.first return. -/
import Derived.Test.YtiemlaehhmlhmaaAddrCmp
import Derived.Deep.Cut
import Derived.Deep.RegionHeld3
set_option linter.unusedVariables false
namespace Go.Proofs.Ytiemlaehhmlhmaa.Addr
open Go.RowKit

theorem styleOf_wide (six : Bool) (w : World) : Calls Try.prog 82 #[.bool six] w fun e w' => ∃ (a b : Int) (c : ByteArray), e = .returned (.agg #[.int .i64 (wideN six : Int), .int .i64 a, .int .i64 b, .string c]) ∧ Below w.heap.size w w' := (styleOf_any six w).mono (by
  rintro e w' ⟨rfl, hb⟩
  cases six
  · exact ⟨_, _, _, rfl, hb⟩
  · exact ⟨_, _, _, rfl, hb⟩)
theorem field_style (x a b c : Value) (w : World) : (Instr.field 109 (.agg #[x, a, b, c]) 0).run Try.prog w = .ok x w := by
  have u := Try.underlying109
  have z := Try.sizeOf3
  have g := Try.isAgg3
  simp only [Instr.field]
  go_simp
  rfl
set_option maxHeartbeats 1000000 in
theorem free_any (p : Pf) (w : World) (hl : 0 ≤ p.len ∧ p.len ≤ (wideN p.six : Int)) : Calls Try.prog 59 #[pfV p] w fun e w' => e = .returned (adV (freeN (kP p))) ∧ Below w.heap.size w w' := by
  have hfd := field_style
  have cs := fun w => styleOf_wide p.six w
  have ct := fun w => tail_any (kP p) w (by have := wideN_le p.six; unfold kP; omega)
  have hk : (wideN p.six : Int) - p.len = (kP p : Int) := by unfold kP; omega
  have hw : (wideN p.six : Int) ≤ 128 := by have := wideN_le p.six; omega
  have hki : (kP p : Int) ≤ 128 := by omega
  have hwr : IntKind.i64.wrap (kP p : Int) = (kP p : Int) := by rw [IntKind.wrap_i64]; omega
  unfold pfV adV
  unfold adV at ct
  generalize kP p = k at *
  generalize freeN k = f at *
  generalize hiN f = fh at *
  generalize loN f = fl at *
  obtain ⟨six, n, len⟩ := p
  simp only at *
  generalize hiN n = h at *
  generalize loN n = l at *
  generalize (wideN six : Int) = wd at *
  obtain ⟨X, hX⟩ : ∃ X, X = (w.alloc (.cells #[.bool six, .int .u64 (h : Int), .int .u64 (l : Int), .int .i64 len] 27)).alloc (.cells #[.int .u64 0, .int .u64 0] 25) := ⟨_, rfl⟩
  have hB0 : Below w.heap.size w X := by rw [hX]; exact below_new (below_new (Below.refl _ _) _) _
  have r0 : RowAt X w.heap.size [.bool six, .int .u64 (h : Int), .int .u64 (l : Int), .int .i64 len] 27 := by rw [hX]; exact (RowAt.new _ _ _).alloc _
  have r1 : RowAt X (w.heap.size + 1) [.int .u64 0, .int .u64 0] 25 := by rw [hX, ← World.size_alloc w (.cells #[.bool six, .int .u64 (h : Int), .int .u64 (l : Int), .int .i64 len] 27)]; exact RowAt.new _ _ _
  have HSK : Hid (∀ W, X.grownBy W (some (w.heap.size + 1)) → (W.cell? ⟨w.heap.size, 0, none⟩ = some (.bool six) ∧ W.cell? ⟨w.heap.size, 3, none⟩ = some (.int .i64 len))) := fun W hb => by
    have q := cells4 (r0.gkeep hb (by simp))
    exact ⟨q.1, q.2.2.2.1⟩
  have HR1 : Hid (∀ W, Below X.heap.size X W → RowAt W (w.heap.size + 1) [.int .u64 0, .int .u64 0] 25) := fun W hb => r1.below hb
  clear r0 r1
  go_enter Try.func59, Try.ntmps59
  go_upto_region 1 with fail
  rw [← hX]
  clear hX
  have hbA : Below X.heap.size X X := Below.refl _ _
  have hgA : X.grownBy X (some (w.heap.size + 1)) := grefl _ _
  go_region_held3 (fun w' => w'.cell? ⟨w.heap.size, 0, none⟩ = some (.bool six) ∧ w'.cell? ⟨w.heap.size, 3, none⟩ = some (.int .i64 len))
    (first
      | (refine HSK.out _ ?_
         repeat' (first | with_reducible exact hgA | with_reducible apply gdrew | with_reducible apply gset)))
    (first
      | (go_at_call 82; with_reducible refine (cs _).mono ?_; rintro e w2 ⟨sa, sb, sc, rfl, hb2⟩
         have hbN : Below X.heap.size X w2 := below2 (by repeat' (first | with_reducible exact hbA | with_reducible apply below_drew)) hb2
         have hgN : X.grownBy w2 (some (w.heap.size + 1)) := gbelow (by repeat' (first | with_reducible exact hgA | with_reducible apply gdrew)) hb2
         clear hbA hgA
         have hbA := hbN
         have hgA := hgN
         clear hbN hb2 hgN)
      | (go_at_call 81; with_reducible refine (ct _).mono ?_; rintro e w2 ⟨rfl, hb2⟩
         have hbN : Below X.heap.size X w2 := below2 (by repeat' (first | with_reducible exact hbA | with_reducible apply below_drew)) hb2
         have hgN : X.grownBy w2 (some (w.heap.size + 1)) := gbelow (by repeat' (first | with_reducible exact hgA | with_reducible apply gdrew)) hb2
         clear hbA hgA
         have hbA := hbN
         have hgA := hgN
         clear hbN hb2 hgN
         obtain ⟨q0, q1, qf⟩ := cells2 (HR1.out _ hbA)))
  go_wp2_with fail
  (try simp only [Exit.inBlock, Exit.then])
  refine bodyPost_ret (v := .agg #[.int .u64 (fh : Int), .int .u64 (fl : Int)]) ?_ rfl ⟨rfl, gfinal hB0 (gset (gset hgA)) (by omega)⟩
  rw [results_cell rfl]
  go_simp
end Go.Proofs.Ytiemlaehhmlhmaa.Addr
