/- What the document's holds, Read, Write and Flush return. -/
import Derived.Test.YtbikcpchlgmoaaaDiskRef
set_option linter.unusedVariables false
namespace Go.Proofs.Ytbikcpchlgmoaaa.Disk
open Go.RowKit Go.Shelf

theorem holdsL_snoc (secs : List (List UInt8)) (ps : List PutT) (p : PutT) (at' : Int) : holdsL secs (ps ++ [p]) at' = if (p.1 == at') = true then p.2 else holdsL secs ps at' := by
  unfold holdsL
  rw [List.reverse_append, List.reverse_singleton, List.singleton_append, List.find?_cons]
  split
  · rename_i h; rw [if_pos h]; rfl
  · rename_i h; rw [if_neg (by rw [h]; decide)]
set_option maxHeartbeats 2000000 in
theorem rholds_any (at' : Nat) (d : Dk) (v : Value) (w : World) (h : HasDk w v d) (hat : at' < d.secs.length) (h1 : d.secs.length ≤ 1024) (h2 : d.cache.length ≤ 5000) :
    Calls Try.prog 96 #[v, .int .i64 (at' : Int)] w fun e w' => e = .returned (strV (holdsL d.secs d.cache at')) ∧ Below w.heap.size w w' := by
  obtain ⟨so, sc, co, cc, rfl, hs, hc⟩ := h.parts
  obtain ⟨X, hX⟩ : ∃ X, X = w.alloc (.cells #[.slice so d.secs.length sc, .slice co d.cache.length cc, .int .i64 d.fuse, .bool d.off] 25) := ⟨_, rfl⟩
  have vb : VBox X w.heap.size (.slice so d.secs.length sc) (.slice co d.cache.length cc) (.int .i64 d.fuse) (.bool d.off) := by rw [hX]; exact heap_alloc_new _ _
  have hB0 : Below w.heap.size w X := by rw [hX]; exact (Below.refl _ w).alloc (Nat.le_refl _) _
  obtain ⟨q0, q1, q2, q3, qf⟩ := vb.cells
  obtain ⟨g1, i1, rfl, _, c1⟩ := HasStrs.cell (hs.keep hB0) at' hat
  have HC : Hid (∀ wr, Below X.heap.size X wr → HasPuts wr (.slice co d.cache.length cc) d.cache) := fun wr hb => (hc.keep hB0).keep hb
  have HZ : Hid (strV (holdsL d.secs (d.cache.take 0) (at' : Int)) = strV d.secs[at']) := by show _ = _; rw [List.take_zero]; unfold holdsL; simp [hat]
  have hati : (at' : Int) < (d.secs.length : Int) := by omega
  obtain ⟨m, hm⟩ : ∃ m, m = d.cache.length := ⟨_, rfl⟩
  have HM : Hid (m = d.cache.length) := hm
  simp only [← hm] at HC hX q1 h2 ⊢
  rw [← HZ.out] at c1
  have HV : Hid (∀ l : List UInt8, strV l = .string ⟨l.toArray⟩) := fun l => rfl
  rw [HV.out] at c1
  clear hs hc h hm vb
  go_enter Try.func96, Try.ntmps96
  go_upto_region 1 with fail
  rw [← hX]
  clear hX
  obtain ⟨Z0, hZ0⟩ : ∃ Z0 : ByteArray, Z0 = ⟨(holdsL d.secs (d.cache.take 0) (at' : Int)).toArray⟩ := ⟨_, rfl⟩
  rw [← hZ0] at c1
  have HZ0 : Hid (Z0 = ⟨(holdsL d.secs (d.cache.take 0) (at' : Int)).toArray⟩) := hZ0
  clear hZ0
  go_wp2_with fail
  go_loopw [5, 16] (fun s i wr => ∃ (j : Nat) (Z : ByteArray), j ≤ m ∧ i = .int .i64 j ∧ s = .string Z ∧ Z = ⟨(holdsL d.secs (d.cache.take j) (at' : Int)).toArray⟩ ∧ Below X.heap.size X wr) (fun _ i _ => m - (intOf i).toNat)
  case atStart => exact ⟨0, Z0, by omega, rfl, rfl, HZ0.out, Below.refl _ _⟩
  case round =>
    obtain ⟨j, Z, hj, rfl, rfl, hZ, hB⟩ := hrel
    have HZ : Hid (Z = ⟨(holdsL d.secs (d.cache.take j) (at' : Int)).toArray⟩) := hZ
    clear hZ
    by_cases hlt : j < m
    · have hjz : j < d.cache.length := by rw [← HM.out]; exact hlt
      obtain ⟨g2, i2, rfl, _, d1, d2⟩ := HasPuts.cell (HC.out _ hB) j hjz
      have HT : Hid (holdsL d.secs (d.cache.take (j + 1)) (at' : Int) = if (d.cache[j].1 == (at' : Int)) = true then d.cache[j].2 else holdsL d.secs (d.cache.take j) (at' : Int)) := by show _ = _; rw [List.take_succ_eq_append_getElem hjz, holdsL_snoc]
      generalize d.cache[j] = p at d1 d2 HT
      obtain ⟨pa, pd⟩ := p
      simp only at d1 d2 HT
      unfold strV at d2
      have HPD : Hid ((⟨pd.toArray⟩ : ByteArray) = ⟨pd.toArray⟩) := rfl
      obtain ⟨PD, hPD⟩ : ∃ PD : ByteArray, PD = ⟨pd.toArray⟩ := ⟨_, rfl⟩
      rw [← hPD] at d2
      have HP : Hid (PD = ⟨pd.toArray⟩) := hPD
      clear hPD HPD
      have hal := hB.alloc hB.size (.cells #[.int .i64 pa, .string PD] 67)
      by_cases hp : (pa == (at' : Int)) = true
      · have HP2 : Hid (holdsL d.secs (d.cache.take (j + 1)) (at' : Int) = pd) := by show _ = _; rw [HT.out, if_pos hp]
        clear HT
        go_wp2_with fail
        go_roundw
        case rel => exact ⟨j + 1, PD, by omega, by go_num, rfl, by rw [HP.out, HP2.out], hal⟩
        case measure => simp [intOf]; omega
      · have hp' : (pa == (at' : Int)) = false := by simpa using hp
        have HP2 : Hid (holdsL d.secs (d.cache.take (j + 1)) (at' : Int) = holdsL d.secs (d.cache.take j) (at' : Int)) := by show _ = _; rw [HT.out, if_neg hp]
        clear HT hp
        go_wp2_with fail
        go_roundw
        case rel => exact ⟨j + 1, Z, by omega, by go_num, rfl, by rw [HZ.out, HP2.out], hal⟩
        case measure => simp [intOf]; omega
    · obtain rfl : j = m := by omega
      go_wp2
      go_ret
      exact ⟨by rw [HV.out]; have := HZ.out; rw [HM.out, List.take_length] at this; rw [← this]; rfl, hB0.trans (hB.mono hB0.size)⟩

end Go.Proofs.Ytbikcpchlgmoaaa.Disk
