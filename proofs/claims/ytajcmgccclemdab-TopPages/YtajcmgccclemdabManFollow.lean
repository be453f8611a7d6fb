/- What manifest.mayFollow and fresh.Disk return. -/
import Derived.Test.YtajcmgccclemdabManLoad
import Derived.Test.YtajcmgccclemdabDiskRef4
set_option linter.unusedVariables false
namespace Go.Proofs.Ytajcmgccclemdab.Man
open Go.RowKit Go.Shelf
open Go.Proofs.Ytajcmgccclemdab.Page
open Go.Proofs.Ytajcmgccclemdab.Disk (Dk HasDk Fits readD TextIs VBox RBox strV Own2 HasStrs HasPuts putCs DiskIs)

theorem getM_le (s : List UInt8) : (getM s).1.1 ≤ 4611686018427387904 := by
  unfold getM
  split
  · split
    · split
      · split
        · rename_i h; exact (okM_parts h.1).1.2
        · show (0 : Nat) ≤ _; decide
      · show (0 : Nat) ≤ _; decide
    · show (0 : Nat) ≤ _; decide
  · show (0 : Nat) ≤ _; decide
theorem mAt_le (d : Dk) (k : Nat) : (mAt d k).1 ≤ 4611686018427387904 := by
  induction k with
  | zero => show (0 : Nat) ≤ _; decide
  | succ k ih =>
    show (stepM (mAt d k) _).1 ≤ _
    unfold stepM; split
    · exact getM_le _
    · exact ih
theorem loadM_le (d : Dk) : (loadM d).1.1 ≤ 4611686018427387904 := by
  unfold loadM
  split
  · split
    · split
      · show (0 : Nat) ≤ _; decide
      · exact mAt_le d 2
    · show (0 : Nat) ≤ _; decide
  · show (0 : Nat) ≤ _; decide
/-- why a manifest can't be the next one -/
def followE (d : Dk) (m : ManT) : Int := if okM m = true then (if (loadM d).2 ≠ 0 ∧ (loadM d).2 ≠ 3 then (loadM d).2 else if m.1 = (loadM d).1.1 + 1 then 0 else 1) else 2
set_option maxHeartbeats 2000000 in
theorem follow_any (d : Dk) (m : ManT) (v u : Value) (w : World) (h : HasDk w v d) (hf : Fits d) (hm : HasParts w u m.2) (hfm : FitM m) :
    Calls Try.prog 50 #[v, .agg #[.int .u64 (m.1 : Int), u]] w fun e w' => e = .returned (.int .i64 (followE d m)) ∧ Below w.heap.size w w' := by
  have cl := fun W (hb : Below w.heap.size w W) => load_any d v W (h.keep hb) hf
  have cc := fun W (hb : Below w.heap.size w W) => check_any m u W (hm.keep hb) hfm
  have hlle := loadM_le d
  obtain ⟨so, sc, co, c3, rfl, hs, hc⟩ := h.parts
  obtain ⟨uo, uc, rfl, _, _⟩ := hm.form
  obtain ⟨X, hX⟩ : ∃ X, X = (w.alloc (.cells #[.slice so d.secs.length sc, .slice co d.cache.length c3, .int .i64 d.fuse, .bool d.off] 28)).alloc (.cells #[.int .u64 (m.1 : Int), .slice uo m.2.length uc] 57) := ⟨_, rfl⟩
  have hB0 : Below w.heap.size w X := by rw [hX]; exact ((Below.refl _ w).alloc (Nat.le_refl _) _).alloc (by simp) _
  have vb : VBox X w.heap.size (.slice so d.secs.length sc) (.slice co d.cache.length c3) (.int .i64 d.fuse) (.bool d.off) := by
    rw [hX]; exact VBox.below (World.alloc_heap_new _ _) ((Below.refl _ _).alloc (Nat.le_refl _) _)
  have mb : MBox X (w.heap.size + 1) m.1 (.slice uo m.2.length uc) := by
    have := RowAt.new (w.alloc (.cells #[.slice so d.secs.length sc, .slice co d.cache.length c3, .int .i64 d.fuse, .bool d.off] 28)) [.int .u64 (m.1 : Int), .slice uo m.2.length uc] 57
    rw [World.size_alloc, List.toArray, ← hX] at this
    exact this
  obtain ⟨R, hR⟩ : ∃ R, R = followE d m := ⟨_, rfl⟩
  rw [← hR]
  have HR : Hid (R = if okM m = true then (if (loadM d).2 ≠ 0 ∧ (loadM d).2 ≠ 3 then (loadM d).2 else if m.1 = (loadM d).1.1 + 1 then 0 else 1) else 2) := hR
  clear hR hs hc h hf
  generalize loadM d = ld at cl hlle HR
  obtain ⟨⟨le, lp⟩, ly⟩ := ld
  simp only at cl hlle HR
  obtain ⟨m0, m1⟩ := mb.cells
  have hmi : (m.1 : Int) ≤ 18446744073709551615 := by have := hfm.1; omega
  cases hok : okM m
  · rw [checkM_bad hok] at cc
    have HR2 : Hid (R = 2) := by show _ = _; rw [HR.out, hok]; rfl
    go_enter Try.func50, Try.ntmps50
    go_wp2_with fail
    rw [← hX]
    go_at_call 83; refine (cc X hB0).mono ?_; rintro e w1 ⟨rfl, hb1⟩
    have hB1 := below2 hB0 hb1
    clear hX cc cl
    go_wp2
    go_ret
    exact ⟨by rw [HR2.out]; rfl, hB1⟩
  · rw [checkM_ok hok] at cc
    rw [hok] at HR
    go_enter Try.func50, Try.ntmps50
    go_wp2_with fail
    rw [← hX]
    go_at_call 83; refine (cc X hB0).mono ?_; rintro e w1 ⟨rfl, hb1⟩
    have hB1 := below2 hB0 hb1
    have vb1 := vb.below hb1
    have mb1 : MBox w1 (w.heap.size + 1) m.1 (.slice uo m.2.length uc) := RowAt.below mb hb1
    clear hX cc vb mb m0 m1 hb1 hB0
    obtain ⟨k0, k1, k2, k3, _⟩ := vb1.cells
    go_wp2_with fail
    go_at_call 22; refine (cl w1 hB1).mono ?_; rintro e w2 ⟨lv, rfl, hp2, hb2⟩
    obtain ⟨lo, lc, rfl, _, _⟩ := hp2.form
    simp only
    obtain ⟨V, hV⟩ : ∃ V, V = w2.alloc (.cells #[.int .u64 (le : Int), .slice lo lp.length lc] 57) := ⟨_, rfl⟩
    have hbV : Below w2.heap.size w2 V := by rw [hV]; exact (Below.refl _ _).alloc (Nat.le_refl _) _
    have mV : MBox V w2.heap.size le (.slice lo lp.length lc) := by rw [hV]; exact RowAt.new w2 [_, _] _
    have mbV : MBox V (w.heap.size + 1) m.1 (.slice uo m.2.length uc) := RowAt.below (RowAt.below mb1 hb2) hbV
    have hBV := below2 (below2 hB1 hb2) hbV
    obtain ⟨G, hG⟩ : ∃ G, G = w2.heap.size := ⟨_, rfl⟩
    rw [← hG] at mV
    clear cl k0 k1 k2 k3 vb1 mb1 hb2 hbV hB1 hp2
    go_upto_region 5 with fail
    rw [← hV, ← hG]
    clear hV hG
    obtain ⟨m0, m1⟩ := mbV.cells
    obtain ⟨n0, n1⟩ := mV.cells
    clear mV mbV
    have hli : (le : Int) ≤ 4611686018427387904 := by omega
    have ew : IntKind.u64.wrap ((le : Int) + 1) = (le : Int) + 1 := by rw [IntKind.wrap_u64]; omega
    by_cases hl0 : ly = 0
    · subst hl0
      by_cases hme : m.1 = le + 1
      · have HR2 : Hid (R = 0) := by show _ = _; rw [HR.out, if_pos trivial, if_neg (fun hc => hc.1 rfl), if_pos hme]
        have e1 : ((m.1 : Int) == (le : Int) + 1) = true := by rw [beq_iff_eq]; omega
        have e2 : (m.1 : Int) = (le : Int) + 1 := by omega
        clear hme hfm
        generalize (m.1 : Int) = me at *
        go_wp2
        go_ret
        exact ⟨by rw [HR2.out]; rfl, hBV⟩
      · have HR2 : Hid (R = 1) := by show _ = _; rw [HR.out, if_pos trivial, if_neg (fun hc => hc.1 rfl), if_neg hme]
        have e1 : ((m.1 : Int) == (le : Int) + 1) = false := by rw [beq_eq_false_iff_ne]; omega
        have e2 : ¬ ((m.1 : Int) = (le : Int) + 1) := by omega
        go_wp2
        go_ret
        exact ⟨by rw [HR2.out]; rfl, hBV⟩
    · have y1 : (ly == 0) = false := beq_eq_false_iff_ne.2 hl0
      have y2 : (ly != 0) = true := by simpa using hl0
      by_cases hl3 : ly = 3
      · subst hl3
        by_cases hme : m.1 = le + 1
        · have HR2 : Hid (R = 0) := by show _ = _; rw [HR.out, if_pos trivial, if_neg (fun hc => hc.2 rfl), if_pos hme]
          have e1 : ((m.1 : Int) == (le : Int) + 1) = true := by rw [beq_iff_eq]; omega
          have e2 : (m.1 : Int) = (le : Int) + 1 := by omega
          clear hme hfm
          generalize (m.1 : Int) = me at *
          go_wp2
          go_ret
          exact ⟨by rw [HR2.out]; rfl, hBV⟩
        · have HR2 : Hid (R = 1) := by show _ = _; rw [HR.out, if_pos trivial, if_neg (fun hc => hc.2 rfl), if_neg hme]
          have e1 : ((m.1 : Int) == (le : Int) + 1) = false := by rw [beq_eq_false_iff_ne]; omega
          have e2 : ¬ ((m.1 : Int) = (le : Int) + 1) := by omega
          go_wp2
          go_ret
          exact ⟨by rw [HR2.out]; rfl, hBV⟩
      · have y3 : (ly == 3) = false := beq_eq_false_iff_ne.2 hl3
        have y4 : (ly != 3) = true := by simpa using hl3
        have HR2 : Hid (R = ly) := by show _ = _; rw [HR.out, if_pos trivial, if_pos ⟨hl0, hl3⟩]
        go_wp2
        go_ret
        exact ⟨by rw [HR2.out]; rfl, hBV⟩
end Go.Proofs.Ytajcmgccclemdab.Man
