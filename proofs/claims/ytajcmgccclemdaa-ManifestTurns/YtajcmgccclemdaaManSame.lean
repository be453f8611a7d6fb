/- What the document's Same of manifests returns of two that are one. -/
import Derived.Test.YtajcmgccclemdaaManLives
set_option linter.unusedVariables false
namespace Go.Proofs.Ytajcmgccclemdaa.Man
open Go.RowKit Go.Shelf
open Go.Proofs.Ytajcmgccclemdaa.Page

theorem part_neq (a : Int) (b : Int) (c : Int) (w : World) : (binOp .neq 71 (.agg #[.int .i64 a, .int .u64 b, .int .i64 c]) (.agg #[.int .i64 a, .int .u64 b, .int .i64 c])).run Try.prog w = .ok (.bool false) w := by
  have u3 := Try.underlying3
  have u9 := Try.underlying22
  have a3 := Try.isAgg3
  have z3 := Try.sizeOf3
  have a9 := Try.isAgg22
  have z9 := Try.sizeOf22
  have hS : Try.prog.underlying 71 = some (.struct (Try.prog.fieldsOf 71)) := by kernel_rfl
  have hp : Try.prog.stoodInHeld 71 = false := by kernel_rfl
  rw [run_neq_struct, show (10000 : Nat) = 9999 + 1 from rfl, run_equalIn_agg w 9999 71 _ _ hS hp]
  simp only [Program.fieldsOf, Try.underlying71]
  go_simp
set_option maxHeartbeats 2000000 in
set_option maxRecDepth 20000 in
theorem msame_any (m : ManT) (v u : Value) (w : World) (h1 : HasParts w v m.2) (h2 : HasParts w u m.2) (hf : m.1 < 18446744073709551616) (hl : m.2.length ≤ 8) :
    Calls Try.prog 16 #[.agg #[.int .u64 (m.1 : Int), v], .agg #[.int .u64 (m.1 : Int), u]] w fun e w' => e = .returned (.bool true) ∧ Below w.heap.size w w' := by
  obtain ⟨vo, vc, rfl, _, _⟩ := h1.form
  obtain ⟨uo, uc, rfl, _, _⟩ := h2.form
  obtain ⟨X, hX⟩ : ∃ X, X = (w.alloc (.cells #[.int .u64 (m.1 : Int), .slice vo m.2.length vc] 25)).alloc (.cells #[.int .u64 (m.1 : Int), .slice uo m.2.length uc] 25) := ⟨_, rfl⟩
  have hB0 : Below w.heap.size w X := by rw [hX]; exact ((Below.refl _ w).alloc (Nat.le_refl _) _).alloc (by simp) _
  have va : MBox X w.heap.size m.1 (.slice vo m.2.length vc) := by rw [hX]; exact RowAt.alloc (RowAt.new w [_, _] _) _
  have vb : MBox X (w.heap.size + 1) m.1 (.slice uo m.2.length uc) := by
    have := RowAt.new (w.alloc (.cells #[.int .u64 (m.1 : Int), .slice vo m.2.length vc] 25)) [.int .u64 (m.1 : Int), .slice uo m.2.length uc] 25
    rw [World.size_alloc, List.toArray, ← hX] at this
    exact this
  have HR : Hid (∀ wr, Below X.heap.size X wr → HasParts wr (.slice vo m.2.length vc) m.2 ∧ HasParts wr (.slice uo m.2.length uc) m.2) := fun wr hb => ⟨(h1.keep hB0).keep hb, (h2.keep hB0).keep hb⟩
  have HA : Hid (∀ wr, Below X.heap.size X wr → MBox wr w.heap.size m.1 (.slice vo m.2.length vc) ∧ MBox wr (w.heap.size + 1) m.1 (.slice uo m.2.length uc)) := fun wr hb => ⟨RowAt.below va hb, RowAt.below vb hb⟩
  have hneq := part_neq
  have hgd := part_guard
  obtain ⟨n, hn⟩ : ∃ n, n = m.2.length := ⟨_, rfl⟩
  have HN : Hid (n = m.2.length) := hn
  have hn9 : (n : Int) ≤ 8 := by omega
  have hme : (m.1 : Int) ≤ 18446744073709551615 := by omega
  simp only [← hn] at HR HA hX ⊢
  obtain ⟨q0, q1⟩ := (HA.out X (Below.refl _ _)).1.cells
  obtain ⟨r0, r1⟩ := (HA.out X (Below.refl _ _)).2.cells
  clear h1 h2 va vb hn hl hf
  have hnn : ((n : Int) != (n : Int)) = false := by simp
  have hee : ((m.1 : Int) != (m.1 : Int)) = false := by simp
  go_enter Try.func16, Try.ntmps16
  go_upto_region 1 with fail
  rw [← hX]
  clear hX
  go_wp2_with fail
  go_loopw [23] (fun i wr => ∃ k : Nat, k ≤ n ∧ i = .int .i64 k ∧ Below X.heap.size X wr) (fun i _ => n - (intOf i).toNat)
  case atStart => exact ⟨0, by omega, rfl, Below.refl _ _⟩
  case round =>
    obtain ⟨k, hk, rfl, hB⟩ := hrel
    obtain ⟨hsa, hsb⟩ := HR.out _ hB
    obtain ⟨x0, x1⟩ := (HA.out _ hB).1.cells
    obtain ⟨y0, y1⟩ := (HA.out _ hB).2.cells
    by_cases hlt : k < n
    · have hkz : k < m.2.length := by rw [← HN.out]; exact hlt
      obtain ⟨_, _, e1, _, ca⟩ := hsa.form
      obtain ⟨_, _, e2, _, cb⟩ := hsb.form
      injection e1 with e11 _ e13
      injection e2 with e21 _ e23
      subst e11; subst e13; subst e21; subst e23
      obtain ⟨g1, i1, rfl, _, c1, c2, c3⟩ := ca k hkz
      obtain ⟨g2, i2, rfl, _, c4, c5, c6⟩ := cb k hkz
      generalize m.2[k].1 = pa at c1 c4
      generalize (m.2[k].2.1 : Int) = pb at c2 c5
      generalize m.2[k].2.2 = pc at c3 c6
      have hki : (k : Int) < (n : Int) := by omega
      clear hsa hsb ca cb
      go_wp2_with fail
      go_quiet (fail)
      go_wp2_with fail
      go_roundw
      case rel => exact ⟨k + 1, by omega, by go_num, by first | exact hB | exact hB.drew | exact below_drewN hB _⟩
      case measure => simp [intOf]; omega
    · clear hsa hsb
      go_wp2
      go_ret
      exact ⟨rfl, hB0.trans (hB.mono hB0.size)⟩
end Go.Proofs.Ytajcmgccclemdaa.Man
