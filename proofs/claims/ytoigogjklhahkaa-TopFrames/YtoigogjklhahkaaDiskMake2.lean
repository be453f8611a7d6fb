/- What disk.Make and a sector's data of one byte are. -/
import Derived.Test.YtoigogjklhahkaaDiskMake
set_option linter.unusedVariables false
namespace Go.Proofs.Ytoigogjklhahkaa.Disk
open Go.RowKit Go.Shelf

theorem info_u8 : (Try.prog.info? 5).map (fun i => (i.zero, i.size, i.bytes)) = some (some (.int .u8 0), 1, 1) := by kernel_rfl
def zeroS : List UInt8 := List.replicate 128 0
theorem may_i (n : Int) (w : World) (hn : -9223372036854775808 ≤ n ∧ n ≤ 9223372036854775807) :
    Calls Try.prog 16 #[.int .i64 n] w fun e w' => e = .returned (.bool (decide (1 ≤ n ∧ n ≤ 1024))) ∧ w' = w := by
  by_cases h1 : 1 ≤ n
  · obtain ⟨k, rfl⟩ := Int.eq_ofNat_of_zero_le (show 0 ≤ n by omega)
    have := may_any k w (by omega)
    rw [show decide (1 ≤ k ∧ k ≤ 1024) = decide (1 ≤ (k : Int) ∧ (k : Int) ≤ 1024) from by rw [decide_eq_decide]; omega] at this
    exact this
  · have e : decide (1 ≤ n ∧ n ≤ 1024) = false := by rw [decide_eq_false_iff_not]; omega
    rw [e]; clear e
    have h1' : decide (1 ≤ n) = false := by simpa using h1
    go_enter Try.func16, Try.ntmps16
    go_wp2
    go_ret
    exact ⟨rfl, rfl⟩
def makeD (n : Int) : Dk × Int := if 1 ≤ n ∧ n ≤ 1024 then (⟨List.replicate n.toNat zeroS, [], -1, false⟩, 0) else (zeroD, 1)
theorem conv_own {W : World} {g : Nat} {l : List UInt8} {B : Nat} (h : W.ownsRow B 5 1 (.slice (some ⟨g, 0, none⟩) l.length l.length) l.length (l.map fun b => Value.int .u8 (b.toNat : Int))) :
    (convert 49 9 (.slice (some ⟨g, 0, none⟩) l.length l.length)).run Try.prog W = .ok (.string ⟨l.toArray⟩) W :=
  run_convert_bytes_back (P := Try.prog) W 49 9 5 ⟨g, 0, none⟩ l.length l Try.underlying49 Try.underlying5 Try.underlying9 (fun j hj => by
    rw [addr_add, Nat.zero_add, h.cellAt j (by omega)]; simp [hj])
set_option maxHeartbeats 2000000 in
set_option maxRecDepth 20000 in
theorem make_fn (n : Int) (w : World) (hn : -9223372036854775808 ≤ n ∧ n ≤ 9223372036854775807) : Calls Try.prog 6 #[.int .i64 n] w (DiskIs (makeD n) w) := by
  have cm := fun w => may_i n w hn
  by_cases hin : 1 ≤ n ∧ n ≤ 1024
  · rw [decide_eq_true hin] at cm
    obtain ⟨k, rfl⟩ := Int.eq_ofNat_of_zero_le (show 0 ≤ n by omega)
    have hk1 : 1 ≤ k := by omega
    have hk2 : k ≤ 1024 := by omega
    have HM : Hid (makeD (k : Int) = (⟨List.replicate k zeroS, [], -1, false⟩, 0)) := by show _ = _; unfold makeD; rw [if_pos hin, Int.toNat_natCast]
    obtain ⟨i0, hi, hz0, hz1, hz2⟩ := info_parts info_u8
    clear hin hn
    go_enter Try.func6, Try.ntmps6
    go_wp2_with fail
    go_at_call 16; refine (cm _).mono ?_; rintro e w1 ⟨rfl, rfl⟩
    go_wp2_with (refine wpList_make_full _ rfl _ _ 49 rfl (w.alloc (.cells #[.slice none 0 0, .slice none 0 0, .int .i64 0, .bool false] 30)).heap.size 5 i0 (.int .u8 0) 1 Try.underlying49 hi hz0 hz1 .i64 .i64 128 128 128 rfl rfl rfl rfl ?b2 ?b3 (Nat.le_refl _) ?_)
    case b2 => rw [hz2]; omega
    case b3 => unfold maxLen; omega
    rintro w2 hown hgr
    have hB1 : Below w.heap.size w w2 := below2 ((Below.refl _ w).alloc (Nat.le_refl _) _) (below_of hgr)
    have hR2 : RBox w2 w.heap.size := by
      have : RBox (w.alloc (.cells #[.slice none 0 0, .slice none 0 0, .int .i64 0, .bool false] 30)) w.heap.size := heap_alloc_new _ _
      exact this.below (below_of hgr)
    have hcv : (convert 49 9 (.slice (some ⟨w.heap.size + 1, 0, none⟩) 128 128)).run Try.prog w2 = .ok (.string ⟨zeroS.toArray⟩) w2 := by
      have ho : w2.ownsRow (w.heap.size + 1) 5 1 (.slice (some ⟨w.heap.size + 1, 0, none⟩) zeroS.length zeroS.length) zeroS.length (zeroS.map fun b => Value.int .u8 (b.toNat : Int)) := by
        rw [show zeroS.length = 128 from by simp [zeroS], show (zeroS.map fun b => Value.int .u8 (b.toNat : Int)) = List.replicate 128 (.int .u8 0) from by simp [zeroS], ← toList_madeCells_one]
        exact hown
      have := conv_own ho
      rw [show zeroS.length = 128 from by simp [zeroS]] at this
      exact this
    have HZ : Hid ((⟨zeroS.toArray⟩ : ByteArray) = ⟨zeroS.toArray⟩ ∧ HasStrs w2 (.slice none 0 0) []) := ⟨rfl, hasRow_nil _ _⟩
    obtain ⟨ZS, hZS⟩ : ∃ ZS : ByteArray, ZS = ⟨zeroS.toArray⟩ := ⟨_, rfl⟩
    rw [← hZS] at hcv
    have HZS : Hid (ZS = ⟨zeroS.toArray⟩) := hZS
    clear hZS hown hgr HZ
    have crp := fun (o : TypeId) => repeat_any w2.heap.size k ZS (w2.alloc (.cells #[.string ZS] o)) (by simp) (alloc_cell _ _ _) hk1 hk2
    go_wp2_with fail
    go_at_call 18; refine (crp _).mono ?_; rintro e w3 ⟨g, rfl, hg3, hb3⟩
    have hB3 : Below w.heap.size w w3 := below2 (hB1.alloc hB1.size _) hb3
    have hR3 : RBox w3 w.heap.size := (hR2.below ((Below.refl _ _).alloc (Nat.le_refl _) _)).below hb3
    have hrow : HasStrs w3 (.slice (some ⟨g, 0, none⟩) k k) (List.replicate k zeroS) := by
      refine ⟨by simp, .inr ⟨⟨g, 0, none⟩, k, by simp, by simp, by omega, fun _ => ⟨rfl, (Array.getElem?_eq_some_iff.1 hg3).1⟩, fun j hj => ?_⟩⟩
      rw [addr_add, Nat.zero_add]
      simp only [World.cell?, hg3]
      rw [if_neg (by simp), List.getElem?_toArray, HZS.out]
      simp [strV]
    have cc := copied_any _ _ w3 hrow (by simp; omega) (fun z hz => by rw [List.eq_of_mem_replicate hz]; simp [zeroS])
    go_wp2_with fail
    go_at_call 17; refine cc.mono ?_; rintro e w4 ⟨u, rfl, ho4, hb4⟩
    obtain ⟨uo, uc, rfl, _, _⟩ := HasRow.slice (hasRow_own ho4)
    have hR4 := hR3.below hb4
    obtain ⟨q0, q1, q2, q3, qf⟩ := hR4.cells
    have HNS : Hid (∀ x z, w4.cell? ⟨w.heap.size, x, none⟩ ≠ some (.string z)) := hR4.nostr
    have hbz := below2 hB3 hb4
    have HH : Hid (HasStrs w4 (.slice uo (List.replicate k zeroS).length uc) (List.replicate k zeroS)) := hasRow_own ho4
    generalize (List.replicate k zeroS).length = kk at *
    clear cc hrow ho4 hR4 hR3 hg3 hb4
    go_wp2
    (try simp only [Exit.inBlock, Exit.then])
    refine bodyPost_ret (v := .tuple #[.agg #[.slice uo kk uc, .slice none 0 0, .int .i64 (-1), .bool false], .int .i64 0]) ?_ rfl (by rw [HM.out]; exact ⟨_, rfl, ⟨_, _, rfl, HH.out.box HNS.out (set4_grown _ _ _ _ _ _), hasRow_nil _ _⟩, set4_below hbz (Nat.le_refl _) _ _ _ _⟩)
    rw [results_cell_tmp rfl]
    go_simp
  · rw [decide_eq_false hin] at cm
    have HM : Hid (makeD n = (zeroD, 1)) := by show _ = _; unfold makeD; rw [if_neg hin]
    clear hin
    go_enter Try.func6, Try.ntmps6
    go_wp2_with fail
    go_at_call 16; refine (cm _).mono ?_; rintro e w1 ⟨rfl, rfl⟩
    go_wp2
    (try simp only [Exit.inBlock, Exit.then])
    refine bodyPost_ret (v := .tuple #[.agg #[.slice none 0 0, .slice none 0 0, .int .i64 0, .bool false], .int .i64 1]) ?_ rfl (by rw [HM.out]; exact ⟨_, rfl, zeroD_has _, ((Below.refl _ w).alloc (Nat.le_refl _) _)⟩)
    rw [results_cell_tmp rfl]
    go_simp

def fullS (b : UInt8) : List UInt8 := List.replicate 128 b
theorem set_full (b : UInt8) (k : Nat) (hk : k < 128) : (List.replicate k (Value.int .u8 (b.toNat : Int)) ++ List.replicate (128 - k) (Value.int .u8 0)).set k (.int .u8 (b.toNat : Int)) = List.replicate (k + 1) (Value.int .u8 (b.toNat : Int)) ++ List.replicate (128 - (k + 1)) (Value.int .u8 0) := by
  rw [List.set_append_right _ _ (by simp), List.length_replicate, Nat.sub_self, show 128 - k = (128 - (k + 1)) + 1 by omega, List.replicate_succ, List.set_cons_zero, List.replicate_succ']
  simp
end Go.Proofs.Ytoigogjklhahkaa.Disk
