/- What manifest.Load returns, for every disk. -/
import Derived.Test.YtajcmgccclemdabManGet
import Derived.Test.YtajcmgccclemdabDiskMath
set_option linter.unusedVariables false
namespace Go.Proofs.Ytajcmgccclemdab.Man
open Go.RowKit
open Go.Proofs.Ytajcmgccclemdab.Page
open Go.Proofs.Ytajcmgccclemdab.Disk (Dk HasDk Fits readD TextIs VBox strV)

/-- the newer one of two that may be -/
def stepM (now : ManT) (g : ManT × Int) : ManT := if g.2 = 0 ∧ now.1 < g.1.1 then g.1 else now
def pickM (g0 g1 : ManT × Int) : ManT := stepM (stepM (0, []) g0) g1
def loadM (d : Dk) : ManT × Int :=
  if (readD d 0).2 = 0 then
    (if (readD d 1).2 = 0 then
      (if (pickM (getM (readD d 0).1) (getM (readD d 1).1)).1 = 0 then ((0, []), 3) else (pickM (getM (readD d 0).1) (getM (readD d 1).1), 0))
     else ((0, []), (readD d 1).2))
  else ((0, []), (readD d 0).2)
theorem getM_bad (s : List UInt8) (h : (getM s).2 ≠ 0) : getM s = ((0, []), (getM s).2) := by
  unfold getM at h ⊢
  split
  · rename_i h1; rw [if_pos h1] at h
    split
    · rename_i h2; rw [if_pos h2] at h
      split
      · rename_i h3; rw [if_pos h3] at h
        split
        · rename_i h4; rw [if_pos h4] at h; exact absurd rfl h
        · rfl
      · rfl
    · rfl
  · rfl
theorem getM_lt (s : List UInt8) : (getM s).1.1 < 18446744073709551616 := by
  by_cases h : (getM s).2 = 0
  · unfold getM at h ⊢
    split
    · split
      · split
        · split
          · exact (toldM_fit s).1
          · show (0 : Nat) < _; decide
        · show (0 : Nat) < _; decide
      · show (0 : Nat) < _; decide
    · show (0 : Nat) < _; decide
  · rw [getM_bad s h]; show (0 : Nat) < _; decide
theorem stepM_lt {a : ManT} {g : ManT × Int} (ha : a.1 < 18446744073709551616) (hg : g.1.1 < 18446744073709551616) : (stepM a g).1 < 18446744073709551616 := by
  unfold stepM; split
  · exact hg
  · exact ha
theorem readD_len (d : Dk) (k : Int) : (readD d k).1.length ≤ 128 := by
  unfold readD
  split
  · rename_i hok
    split
    · simp
    · split
      · rename_i hin
        simp only [Disk.inB, decide_eq_true_eq] at hin
        obtain ⟨j, rfl⟩ := Int.eq_ofNat_of_zero_le hin.1
        rw [Disk.holdsL_len d (Disk.ok_of hok) j (by omega)]; exact Nat.le_refl _
      · simp
  · simp
/-- between two rounds of Load -/
structure LoadAt (w W : World) (d : Dk) (so co : Option Addr) (sc cc : Nat) (m : ManT) (v : Value) : Prop where
  disk : VBox W w.heap.size (.slice so d.secs.length sc) (.slice co d.cache.length cc) (.int .i64 d.fuse) (.bool d.off)
  res : MBox W (w.heap.size + 1) 0 (.slice none 0 0)
  now : MBox W (w.heap.size + 2) m.1 v
  parts : HasParts W v m.2
  below : Below w.heap.size w W
theorem LoadAt.keep {w W W' : World} {d : Dk} {so co : Option Addr} {sc cc : Nat} {m : ManT} {v : Value} (h : LoadAt w W d so co sc cc m v) (hb : Below W.heap.size W W') : LoadAt w W' d so co sc cc m v :=
  ⟨h.disk.below hb, RowAt.below h.res hb, RowAt.below h.now hb, h.parts.keep hb, below2 h.below hb⟩
/-- a store of a manifest into the variable -/
theorem LoadAt.store {w W : World} {d : Dk} {so co : Option Addr} {sc cc : Nat} {m m' : ManT} {o : Option Addr} {n c : Nat} {v' : Value} (h : LoadAt w W d so co sc cc m (.slice o n c)) (hp : HasParts W v' m'.2) :
    LoadAt w ((W.setCell ⟨w.heap.size + 2, 0, none⟩ (.int .u64 (m'.1 : Int))).setCell ⟨w.heap.size + 2, 1, none⟩ v') d so co sc cc m' v' := by
  have hg : W.grownBy ((W.setCell ⟨w.heap.size + 2, 0, none⟩ (.int .u64 (m'.1 : Int))).setCell ⟨w.heap.size + 2, 1, none⟩ v') (some (w.heap.size + 2)) := grown2 (grown_cell _ _ _ _) (grown_cell _ _ _ _)
  refine ⟨h.disk.kept hg (by simp), h.res.grown hg (by omega), ?_, HasParts.far hp h.now hg, set2_below h.below (by omega) _ _⟩
  have h1 : RowAt (W.setCell ⟨w.heap.size + 2, 0, none⟩ (.int .u64 (m'.1 : Int))) (w.heap.size + 2) [.int .u64 (m'.1 : Int), .slice o n c] 57 := by
    have := h.now; unfold MBox at this; rw [this.setCell]; exact RowAt.set this _
  unfold MBox
  rw [h1.setCell]; exact RowAt.set h1 _
def mAt (d : Dk) : Nat → ManT
  | 0 => (0, [])
  | k + 1 => stepM (mAt d k) (getM (readD d (k : Int)).1)
theorem mAt_lt (d : Dk) (k : Nat) : (mAt d k).1 < 18446744073709551616 := by
  induction k with
  | zero => show (0 : Nat) < _; decide
  | succ k ih => exact stepM_lt ih (getM_lt _)
theorem load_two {d : Dk} (h0 : (readD d 0).2 = 0) (h1 : (readD d 1).2 = 0) : loadM d = if (mAt d 2).1 = 0 then ((0, []), 3) else (mAt d 2, 0) := by
  rw [loadM, if_pos h0, if_pos h1]; rfl
theorem load_bad {d : Dk} {k : Nat} (hk : k < 2) (h : ∀ j, j < k → (readD d (j : Int)).2 = 0) (hb : (readD d (k : Int)).2 ≠ 0) : loadM d = ((0, []), (readD d (k : Int)).2) := by
  match k, hk with
  | 0, _ =>
    have hb' : ¬ (readD d 0).2 = 0 := hb
    rw [loadM, if_neg hb']; rfl
  | 1, _ =>
    have hb' : ¬ (readD d 1).2 = 0 := hb
    have h0 : (readD d 0).2 = 0 := h 0 (by omega)
    rw [loadM, if_pos h0, if_neg hb']; rfl
set_option maxRecDepth 20000 in
set_option maxHeartbeats 4000000 in
theorem load_any (d : Dk) (v : Value) (w : World) (h : HasDk w v d) (hf : Fits d) :
    Calls Try.prog 22 #[v] w (ManIs (loadM d) w) := by
  have hdk := fun W (hb : Below w.heap.size w W) => h.keep hb
  have cr := fun (k : Nat) (hk : k < 2) W (hb : Below w.heap.size w W) => Disk.read_fn d v (k : Int) W (hdk W hb) hf ⟨by omega, by omega⟩
  obtain ⟨so, sc, co, cc, rfl, hs, hc⟩ := h.parts
  have HCR : Hid (∀ (k : Nat) (hk : k < 2) W (hb : Below w.heap.size w W), Calls Try.prog 53 #[.agg #[.slice so d.secs.length sc, .slice co d.cache.length cc, .int .i64 d.fuse, .bool d.off], .int .i64 (k : Int)] W (TextIs (readD d (k : Int)) W)) := cr
  clear cr hdk hs hc h
  obtain ⟨X, hX⟩ : ∃ X, X = ((w.alloc (.cells #[.slice so d.secs.length sc, .slice co d.cache.length cc, .int .i64 d.fuse, .bool d.off] 28)).alloc (.cells #[.int .u64 0, .slice none 0 0] 57)).alloc (.cells #[.int .u64 0, .slice none 0 0] 57) := ⟨_, rfl⟩
  have la : LoadAt w X d so co sc cc (0, []) (.slice none 0 0) := by
    rw [hX]
    refine ⟨?_, ?_, ?_, Disk.hasRow_nil _ _, (((Below.refl _ w).alloc (Nat.le_refl _) _).alloc (by simp) _).alloc (by simp; omega) _⟩
    · exact VBox.below (VBox.below (World.alloc_heap_new _ _) ((Below.refl _ _).alloc (Nat.le_refl _) _)) ((Below.refl _ _).alloc (Nat.le_refl _) _)
    · have := RowAt.new (w.alloc (.cells #[.slice so d.secs.length sc, .slice co d.cache.length cc, .int .i64 d.fuse, .bool d.off] 28)) [.int .u64 0, .slice none 0 0] 57
      rw [World.size_alloc] at this
      exact RowAt.alloc this _
    · have := RowAt.new ((w.alloc (.cells #[.slice so d.secs.length sc, .slice co d.cache.length cc, .int .i64 d.fuse, .bool d.off] 28)).alloc (.cells #[.int .u64 0, .slice none 0 0] 57)) [.int .u64 0, .slice none 0 0] 57
      rw [World.size_alloc, World.size_alloc] at this
      exact this
  have HLA : Hid (LoadAt w X d so co sc cc (0, []) (.slice none 0 0)) := la
  clear la
  obtain ⟨R, hR⟩ : ∃ R, R = loadM d := ⟨_, rfl⟩
  rw [← hR]
  have HRR : Hid (R = loadM d) := hR
  clear hR
  go_enter Try.func22, Try.ntmps22
  go_upto_region 2 with fail
  rw [← hX]
  clear hX
  go_wp2_with fail
  go_loopw [10] (fun i wr => ∃ (k : Nat) (u : Value), k ≤ 2 ∧ i = .int .i64 k ∧ LoadAt w wr d so co sc cc (mAt d k) u ∧ Hid (∀ j, j < k → (readD d (j : Int)).2 = 0)) (fun i _ => 2 - (intOf i).toNat)
  case atStart => exact ⟨0, _, by omega, rfl, HLA.out, fun j hj => by omega⟩
  case round =>
    obtain ⟨k, u, hk, rfl, hL, HJ⟩ := hrel
    clear HLA
    have hml := mAt_lt d k
    obtain ⟨uo, uc, rfl, _, _⟩ := hL.parts.form
    by_cases hlt : k < 2
    · have cr := HCR.out k hlt wr hL.below
      have HB : Hid ((readD d (k : Int)).2 ≠ 0 → loadM d = ((0, []), (readD d (k : Int)).2)) := load_bad hlt HJ.out
      have HS : Hid (mAt d (k + 1) = stepM (mAt d k) (getM (readD d (k : Int)).1)) := rfl
      have HJ2 : Hid ((readD d (k : Int)).2 = 0 → ∀ j, j < k + 1 → (readD d (j : Int)).2 = 0) := by
        intro h j hj
        by_cases e : j = k
        · rw [e]; exact h
        · exact HJ.out j (by omega)
      have cg := fun W => get_core (readD d (k : Int)).1 W (by have := readD_len d (k : Int); omega)
      unfold TextIs at cr
      generalize readD d (k : Int) = rd at cr HB HS HJ2 cg
      obtain ⟨s, y⟩ := rd
      simp only at cr HB HS HJ2 cg
      generalize hmm : mAt d k = mk at hL hml HS ⊢
      clear hmm
      obtain ⟨k0, k1, k2, k3, _⟩ := hL.disk.cells
      by_cases hy : y = 0
      · subst hy
        have hgl := getM_lt s
        unfold ManIs at cg
        obtain ⟨⟨gm, gy⟩, hgg⟩ : ∃ g, getM s = g := ⟨_, rfl⟩
        rw [hgg] at cg HS hgl
        simp only at cg HS hgl
        unfold strV at cr
        generalize (⟨s.toArray⟩ : ByteArray) = S at cr cg
        have HL : Hid (LoadAt w wr d so co sc cc mk (.slice uo mk.2.length uc)) := hL
        have hgi : (gm.1 : Int) ≤ 18446744073709551615 := by omega
        have hmi : (mk.1 : Int) ≤ 18446744073709551615 := by omega
        clear hgg hL
        go_wp2_with fail
        go_at_call 53; refine cr.mono ?_; rintro e w1 ⟨rfl, hb1⟩
        clear cr k0 k1 k2 k3
        go_wp2_with fail
        go_at_call 54; refine (cg _).mono ?_; rintro e w2 ⟨v2, rfl, hp2, hb2⟩
        obtain ⟨go', gc, rfl, _, _⟩ := hp2.form
        obtain ⟨V, hV⟩ : ∃ V, V = w2.alloc (.cells #[.int .u64 (gm.1 : Int), .slice go' gm.2.length gc] 57) := ⟨_, rfl⟩
        have hbV : Below w2.heap.size w2 V := by rw [hV]; exact (Below.refl _ _).alloc (Nat.le_refl _) _
        have mV : MBox V w2.heap.size gm.1 (.slice go' gm.2.length gc) := by rw [hV]; exact RowAt.new w2 [_, _] _
        have hpV := hp2.keep hbV
        have hLV := HL.out.keep (below2 (below2 hb1 hb2) hbV)
        obtain ⟨G, hG⟩ : ∃ G, G = w2.heap.size := ⟨_, rfl⟩
        rw [← hG] at mV
        clear cg hp2 hb2 hbV hb1
        go_upto_region 9 with fail
        rw [← hV, ← hG]
        clear hV hG
        obtain ⟨m0, m1⟩ := mV.cells
        obtain ⟨n0, n1⟩ := hLV.now.cells
        have f0 := RowAt.frozen hLV.now 0
        have f1 := RowAt.frozen hLV.now 1
        by_cases hgy : gy = 0
        · subst hgy
          by_cases hlt2 : mk.1 < gm.1
          · have HS2 : Hid (mAt d (k + 1) = gm) := by show _ = _; rw [HS.out, stepM, if_pos ⟨rfl, hlt2⟩]
            have dl : decide ((mk.1 : Int) < (gm.1 : Int)) = true := by rw [decide_eq_true_iff]; omega
            have HLN : Hid (LoadAt w ((V.setCell ⟨w.heap.size + 2, 0, none⟩ (.int .u64 (gm.1 : Int))).setCell ⟨w.heap.size + 2, 1, none⟩ (.slice go' gm.2.length gc)) d so co sc cc gm (.slice go' gm.2.length gc)) := hLV.store hpV
            have hli : (mk.1 : Int) < (gm.1 : Int) := by omega
            clear hLV hpV mV HL
            go_wp2
            go_roundw
            case rel => exact ⟨k + 1, _, by omega, by go_num, by rw [HS2.out]; exact HLN.out, HJ2.out trivial⟩
            case measure => simp [intOf]; omega
          · have HS2 : Hid (mAt d (k + 1) = mk) := by show _ = _; rw [HS.out, stepM, if_neg (fun hc => hlt2 hc.2)]
            have dl : decide ((mk.1 : Int) < (gm.1 : Int)) = false := by rw [decide_eq_false_iff_not]; omega
            have hli : ¬ ((mk.1 : Int) < (gm.1 : Int)) := by omega
            have HLN : Hid (LoadAt w V d so co sc cc mk (.slice uo mk.2.length uc)) := hLV
            clear hLV hpV mV HL
            go_wp2
            go_roundw
            case rel => exact ⟨k + 1, _, by omega, by go_num, by rw [HS2.out]; exact HLN.out, HJ2.out trivial⟩
            case measure => simp [intOf]; omega
        · have HS2 : Hid (mAt d (k + 1) = mk) := by show _ = _; rw [HS.out, stepM, if_neg (fun hc => hgy hc.1)]
          have hgy2 : (gy == 0) = false := beq_eq_false_iff_ne.2 hgy
          have HLN : Hid (LoadAt w V d so co sc cc mk (.slice uo mk.2.length uc)) := hLV
          clear hLV hpV mV HL
          go_wp2
          go_roundw
          case rel => exact ⟨k + 1, _, by omega, by go_num, by rw [HS2.out]; exact HLN.out, HJ2.out trivial⟩
          case measure => simp [intOf]; omega
      · have HR : Hid (R = ((0, []), y)) := HRR.out.trans (HB.out hy)
        have hy2 : (y != 0) = true := by simpa using hy
        unfold strV at cr
        generalize (⟨s.toArray⟩ : ByteArray) = S at cr
        clear cg
        go_wp2_with fail
        go_at_call 53; refine cr.mono ?_; rintro e w1 ⟨rfl, hb1⟩
        have hL1 := hL.keep hb1
        obtain ⟨r0, r1⟩ := hL1.res.cells
        have f0 := RowAt.frozen hL1.res 0
        have f1 := RowAt.frozen hL1.res 1
        have hBf := hL1.below
        clear cr hL hL1 k0 k1 k2 k3
        go_wp2
        (try simp only [Exit.inBlock, Exit.then])
        refine bodyPost_ret ?_ rfl (manIs_zero HR.out (set2_below hBf (by omega) _ _))
        rw [results_cell_tmp rfl]
        go_simp
    · obtain rfl : k = 2 := by omega
      have HR : Hid (R = if (mAt d 2).1 = 0 then ((0, []), 3) else (mAt d 2, 0)) := HRR.out.trans (load_two (HJ.out 0 (by omega)) (HJ.out 1 (by omega)))
      generalize mAt d 2 = mk at hL hml HR ⊢
      obtain ⟨n0, n1⟩ := hL.now.cells
      obtain ⟨r0, r1⟩ := hL.res.cells
      have f0 := RowAt.frozen hL.res 0
      have f1 := RowAt.frozen hL.res 1
      have hBf := hL.below
      have hmi : (mk.1 : Int) ≤ 18446744073709551615 := by omega
      by_cases hz : mk.1 = 0
      · have HR2 : Hid (R = ((0, []), 3)) := by show _ = _; rw [HR.out, if_pos hz]
        rw [hz] at n0
        clear hL
        go_wp2
        (try simp only [Exit.inBlock, Exit.then])
        refine bodyPost_ret ?_ rfl (manIs_zero HR2.out (set2_below hBf (by omega) _ _))
        rw [results_cell_tmp rfl]
        go_simp
      · have HR2 : Hid (R = (mk, 0)) := by show _ = _; rw [HR.out, if_neg hz]
        have hz2 : ((mk.1 : Int) == 0) = false := by rw [beq_eq_false_iff_ne]; omega
        have hz3 : ¬ ((mk.1 : Int) = 0) := by omega
        have HPF : Hid (HasParts ((wr.setCell ⟨w.heap.size + 1, 0, none⟩ (.int .u64 (mk.1 : Int))).setCell ⟨w.heap.size + 1, 1, none⟩ (.slice uo mk.2.length uc)) (.slice uo mk.2.length uc) mk.2) := HasParts.far hL.parts hL.res (grown2 (grown_cell _ _ _ _) (grown_cell _ _ _ _))
        have y0 : (wr.setCell ⟨w.heap.size + 1, 0, none⟩ (.int .u64 (mk.1 : Int))).cell? ⟨w.heap.size + 1, 0, none⟩ = some (.int .u64 (mk.1 : Int)) := by
          have h1 : RowAt (wr.setCell ⟨w.heap.size + 1, 0, none⟩ (.int .u64 (mk.1 : Int))) (w.heap.size + 1) [.int .u64 (mk.1 : Int), .slice none 0 0] 57 := by
            have := hL.res; unfold MBox at this; rw [this.setCell]; exact RowAt.set this _
          exact h1.cell 0
        clear hL
        go_wp2
        (try simp only [Exit.inBlock, Exit.then])
        refine bodyPost_ret (v := .tuple #[.agg #[.int .u64 (mk.1 : Int), .slice uo mk.2.length uc], .int .i64 0]) ?_ rfl ⟨_, by rw [HR2.out], by rw [HR2.out]; exact HPF.out, set2_below hBf (by omega) _ _⟩
        rw [results_cell_tmp rfl]
        go_simp
end Go.Proofs.Ytajcmgccclemdab.Man
