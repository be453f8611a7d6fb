/- What the document's Same of disks returns of two that are one. -/
import Derived.Test.YtajcmgccclemdaaDiskRef
import Derived.Laws.StructEq
set_option linter.unusedVariables false
namespace Go.Proofs.Ytajcmgccclemdaa.Disk
open Go.RowKit Go.Shelf

theorem put_neq (pa : Int) (PD : ByteArray) (w : World) : (binOp .neq 88 (.agg #[.int .i64 pa, .string PD]) (.agg #[.int .i64 pa, .string PD])).run Try.prog w = .ok (.bool false) w := by
  have u3 := Try.underlying3
  have u9 := Try.underlying9
  have a3 := Try.isAgg3
  have z3 := Try.sizeOf3
  have a9 := Try.isAgg9
  have z9 := Try.sizeOf9
  have hS : Try.prog.underlying 88 = some (.struct (Try.prog.fieldsOf 88)) := by kernel_rfl
  have hp : Try.prog.stoodInHeld 88 = false := by kernel_rfl
  rw [run_neq_struct, show (10000 : Nat) = 9999 + 1 from rfl, run_equalIn_agg w 9999 88 _ _ hS hp]
  simp only [Program.fieldsOf, Try.underlying88]
  go_simp
theorem put_guard : Try.prog.eqGuardType Try.prog.depth 88 = false := by kernel_rfl
set_option maxHeartbeats 2000000 in
set_option maxRecDepth 20000 in
theorem rsame_any (d : Dk) (v u : Value) (w : World) (h1 : HasDk w v d) (h2 : HasDk w u d) (hs9 : d.secs.length ≤ 10000000000000) (hc9 : d.cache.length ≤ 10000000000000) :
    Calls Try.prog 22 #[v, u] w fun e w' => e = .returned (.bool true) ∧ Below w.heap.size w w' := by
  obtain ⟨so, sc, co, cc, rfl, hs, hc⟩ := h1.parts
  obtain ⟨so', sc', co', cc', rfl, hs', hc'⟩ := h2.parts
  obtain ⟨X, hX⟩ : ∃ X, X = (w.alloc (.cells #[.slice so d.secs.length sc, .slice co d.cache.length cc, .int .i64 d.fuse, .bool d.off] 38)).alloc (.cells #[.slice so' d.secs.length sc', .slice co' d.cache.length cc', .int .i64 d.fuse, .bool d.off] 38) := ⟨_, rfl⟩
  have hB0 : Below w.heap.size w X := by rw [hX]; exact ((Below.refl _ w).alloc (Nat.le_refl _) _).alloc (by simp) _
  have va : VBox X w.heap.size (.slice so d.secs.length sc) (.slice co d.cache.length cc) (.int .i64 d.fuse) (.bool d.off) := by
    rw [hX]
    have : VBox (w.alloc (.cells #[.slice so d.secs.length sc, .slice co d.cache.length cc, .int .i64 d.fuse, .bool d.off] 38)) w.heap.size (.slice so d.secs.length sc) (.slice co d.cache.length cc) (.int .i64 d.fuse) (.bool d.off) := heap_alloc_new _ _
    exact this.below ((Below.refl _ _).alloc (Nat.le_refl _) _)
  have vb : VBox X (w.heap.size + 1) (.slice so' d.secs.length sc') (.slice co' d.cache.length cc') (.int .i64 d.fuse) (.bool d.off) := by
    have := heap_alloc_new (w.alloc (.cells #[.slice so d.secs.length sc, .slice co d.cache.length cc, .int .i64 d.fuse, .bool d.off] 38)) (.cells #[.slice so' d.secs.length sc', .slice co' d.cache.length cc', .int .i64 d.fuse, .bool d.off] 38)
    rw [World.size_alloc, ← hX] at this
    exact this
  have HR : Hid (∀ wr, Below X.heap.size X wr → (HasStrs wr (.slice so d.secs.length sc) d.secs ∧ HasPuts wr (.slice co d.cache.length cc) d.cache) ∧ HasStrs wr (.slice so' d.secs.length sc') d.secs ∧ HasPuts wr (.slice co' d.cache.length cc') d.cache) := fun wr hb =>
    ⟨⟨(hs.keep hB0).keep hb, (hc.keep hB0).keep hb⟩, (hs'.keep hB0).keep hb, (hc'.keep hB0).keep hb⟩
  have HA : Hid (∀ wr, Below X.heap.size X wr → VBox wr w.heap.size (.slice so d.secs.length sc) (.slice co d.cache.length cc) (.int .i64 d.fuse) (.bool d.off) ∧ VBox wr (w.heap.size + 1) (.slice so' d.secs.length sc') (.slice co' d.cache.length cc') (.int .i64 d.fuse) (.bool d.off)) := fun wr hb => ⟨va.below hb, vb.below hb⟩
  have hneq := put_neq
  have hgd := put_guard
  have hn9 : (d.secs.length : Int) ≤ 10000000000000 := by omega
  have hm9 : (d.cache.length : Int) ≤ 10000000000000 := by omega
  obtain ⟨n, hn⟩ : ∃ n, n = d.secs.length := ⟨_, rfl⟩
  obtain ⟨m, hm⟩ : ∃ m, m = d.cache.length := ⟨_, rfl⟩
  have HN : Hid (n = d.secs.length) := hn
  have HM : Hid (m = d.cache.length) := hm
  simp only [← hn, ← hm] at HR HA hX hn9 hm9 ⊢
  obtain ⟨q0, q1, q2, q3, qf⟩ := (HA.out X (Below.refl _ _)).1.cells
  obtain ⟨r0, r1, r2, r3, rf⟩ := (HA.out X (Below.refl _ _)).2.cells
  clear hs hc hs' hc' h1 h2 va vb hn hm hs9 hc9
  have hdo : (d.off != d.off) = false := by simp
  have hdf : (d.fuse != d.fuse) = false := by simp
  have hnn : ((n : Int) != (n : Int)) = false := by simp
  have hmm : ((m : Int) != (m : Int)) = false := by simp
  go_enter Try.func22, Try.ntmps22
  go_upto_region 1 with fail
  rw [← hX]
  clear hX
  go_wp2_with fail
  go_loopw [40] (fun i wr => ∃ k : Nat, k ≤ n ∧ i = .int .i64 k ∧ Below X.heap.size X wr) (fun i _ => n - (intOf i).toNat)
  case atStart => exact ⟨0, by omega, rfl, Below.refl _ _⟩
  case round =>
    obtain ⟨k, hk, rfl, hB⟩ := hrel
    obtain ⟨⟨hsa, hca⟩, hsb, hcb⟩ := HR.out _ hB
    obtain ⟨x0, x1, x2, x3, xf⟩ := (HA.out _ hB).1.cells
    obtain ⟨y0, y1, y2, y3, yf⟩ := (HA.out _ hB).2.cells
    by_cases hlt : k < n
    · have hkz : k < d.secs.length := by rw [← HN.out]; exact hlt
      obtain ⟨g1, i1, rfl, _, c1⟩ := HasStrs.cell hsa k hkz
      obtain ⟨g2, i2, rfl, _, c2⟩ := HasStrs.cell hsb k hkz
      unfold strV at c1 c2
      generalize (⟨(d.secs[k]).toArray⟩ : ByteArray) = Z at c1 c2
      have hki : (k : Int) < (n : Int) := by omega
      clear hsa hca hsb hcb
      go_wp2_with fail
      go_quiet (fail)
      go_wp2_with fail
      go_roundw
      case rel => exact ⟨k + 1, by omega, by go_num, by first | exact hB | exact hB.drew | exact below_drewN hB _⟩
      case measure => simp [intOf]; omega
    · clear hsa hca hsb hcb
      obtain ⟨wa, hwa⟩ : ∃ wa, wa = wr := ⟨_, rfl⟩
      subst hwa
      go_wp2_with fail
      go_loopw [58] (fun i wr => ∃ j : Nat, j ≤ m ∧ i = .int .i64 j ∧ Below X.heap.size X wr) (fun i _ => m - (intOf i).toNat)
      case atStart => exact ⟨0, by omega, rfl, hB⟩
      case round =>
        obtain ⟨j, hj, rfl, hB2⟩ := hrel
        obtain ⟨⟨hsa, hca⟩, hsb, hcb⟩ := HR.out _ hB2
        obtain ⟨x0, x1, x2, x3, xf⟩ := (HA.out _ hB2).1.cells
        obtain ⟨y0, y1, y2, y3, yf⟩ := (HA.out _ hB2).2.cells
        by_cases hlt2 : j < m
        · have hjz : j < d.cache.length := by rw [← HM.out]; exact hlt2
          obtain ⟨g1, i1, rfl, _, c1, c2⟩ := HasPuts.cell hca j hjz
          obtain ⟨g2, i2, rfl, _, c3, c4⟩ := HasPuts.cell hcb j hjz
          unfold strV at c2 c4
          generalize (⟨(d.cache[j]).2.toArray⟩ : ByteArray) = Z at c2 c4
          generalize (d.cache[j]).1 = pa at c1 c3
          have hji : (j : Int) < (m : Int) := by omega
          clear hsa hca hsb hcb
          go_wp2_with fail
          go_quiet (fail)
          go_wp2_with fail
          go_roundw
          case rel => exact ⟨j + 1, by omega, by go_num, by first | exact hB2 | exact hB2.drew | exact below_drewN hB2 _⟩
          case measure => simp [intOf]; omega
        · go_wp2
          go_ret
          exact ⟨rfl, hB0.trans (hB2.mono hB0.size)⟩
end Go.Proofs.Ytajcmgccclemdaa.Disk
