/- What disk.copied returns. -/
import Derived.Test.YtoigogjklhahkaaDiskRows
set_option linter.unusedVariables false
namespace Go.Proofs.Ytoigogjklhahkaa.Disk
open Go.RowKit Go.Shelf

theorem set_next {α β : Type} (f : α → β) (z0 : β) (zs : List α) (k : Nat) (hk : k < zs.length) :
    ((zs.take k).map f ++ List.replicate (zs.length - k) z0).set k (f zs[k]) = (zs.take (k + 1)).map f ++ List.replicate (zs.length - (k + 1)) z0 := by
  have h1 : ((zs.take k).map f).length = k := by simp; omega
  rw [List.set_append_right _ _ (by omega), h1, Nat.sub_self, List.take_succ_eq_append_getElem hk, List.map_append]
  rw [show zs.length - k = (zs.length - (k + 1)) + 1 by omega, List.replicate_succ, List.set_cons_zero]
  simp
set_option maxHeartbeats 1000000 in
theorem copied_any (zs : List (List UInt8)) (v : Value) (w : World) (h : HasStrs w v zs) (hz : zs.length ≤ 1024) (hl : ∀ z ∈ zs, z.length ≤ 128) :
    Calls Try.prog 17 #[v] w fun e w' => ∃ u, e = .returned u ∧ w'.ownsRow w.heap.size 9 1 u zs.length (zs.map strV) ∧ Below w.heap.size w w' := by
  obtain ⟨o, cap, rfl, hnc, hcm⟩ := HasRow.slice h
  obtain ⟨n, hn⟩ : ∃ n, n = zs.length := ⟨_, rfl⟩
  have HN : Hid (n = zs.length) := hn
  have hn4 : n ≤ 1024 := by omega
  have HC : Hid (∀ j (hj : j < zs.length), ∃ b i, o = some ⟨b, i, none⟩ ∧ b < w.heap.size ∧ w.cell? ⟨b, i + j, none⟩ = some (strV zs[j])) := fun j hj => HasStrs.cell h j hj
  have HL : Hid (∀ z ∈ zs, z.length ≤ 128) := hl
  obtain ⟨i0, hi, hz0, hz1, hz2⟩ := info_parts info_str
  have HS : Hid (∀ k (hk : k < zs.length), ((zs.take k).map strV ++ List.replicate (n - k) (Value.string ⟨#[]⟩)).set k (strV zs[k]) = (zs.take (k + 1)).map strV ++ List.replicate (n - (k + 1)) (Value.string ⟨#[]⟩)) := fun k hk => by rw [hn]; exact set_next strV _ zs k hk
  rw [← hn]
  clear hn h hl hz
  go_enter Try.func17, Try.ntmps17
  go_wp2_with (refine wpList_make_full _ rfl _ _ 22 rfl w.heap.size 9 i0 (.string ⟨#[]⟩) 1 Try.underlying22 hi hz0 hz1 .i64 .i64 (n : Int) (n : Int) n rfl rfl rfl rfl ?b2 ?b3 (Nat.le_refl _) ?_)
  case b2 => rw [hz2]; omega
  case b3 => unfold maxLen; omega
  rintro w1 hown hgr
  have hown : w1.ownsRow w.heap.size 9 1 (.slice (some ⟨w.heap.size, 0, none⟩) n n) n (List.replicate n (.string ⟨#[]⟩)) := by
    rw [← toList_madeCells_one]
    exact hown
  have hB1 : Below w.heap.size w w1 := below_of hgr
  clear hgr
  go_wp2_with fail
  go_loopw [11] (fun i wr => ∃ k : Nat, k ≤ n ∧ i = .int .i64 k ∧ wr.ownsRow w.heap.size 9 1 (.slice (some ⟨w.heap.size, 0, none⟩) n n) n ((zs.take k).map strV ++ List.replicate (n - k) (.string ⟨#[]⟩)) ∧ Below w.heap.size w wr) (fun i _ => n - (intOf i).toNat)
  case atStart => exact ⟨0, by omega, rfl, by simpa using hown, hB1⟩
  case round =>
    obtain ⟨k, hk, rfl, ho, hB⟩ := hrel
    by_cases hlt : k < n
    · have hkz : k < zs.length := by rw [← HN.out]; exact hlt
      obtain ⟨b, i, rfl, hb, q1⟩ := HC.out k hkz
      have q2 := (hB.cell (p := ⟨b, i + k, none⟩) hb).trans q1
      have hz1 := HL.out zs[k] (List.getElem_mem hkz)
      have HSk : Hid _ := HS.out k hkz
      generalize zs[k] = z at q2 hz1 HSk
      have cl := fun w => clone_any ⟨z.toArray⟩ w (by rw [size_list]; omega)
      unfold strV at q2
      clear q1
      go_wp2_with fail
      go_at_call 30; refine (cl _).mono ?_; rintro e w2 ⟨rfl, hb2⟩
      have ho2 : w2.ownsRow w.heap.size 9 1 (.slice (some ⟨w.heap.size, 0, none⟩) n n) n ((zs.take k).map strV ++ List.replicate (n - k) (.string ⟨#[]⟩)) := ho.kept (grown_of hb2) (.inr (by simp [Value.ownBlock]))
      have hc2 := ho2.cellAt k (by omega)
      have hf2 := ho2.frozenAt k
      have hlen : (List.map strV (List.take k zs) ++ List.replicate (n - k) (Value.string ⟨#[]⟩)).length = n := by have := ho2.1; omega
      obtain ⟨x0, hx0⟩ : ∃ x0, w2.cell? ⟨w.heap.size, k, none⟩ = some x0 := ⟨_, hc2.trans (List.getElem?_eq_getElem (by omega))⟩
      clear hc2 hlen
      go_wp2
      go_roundw
      case rel =>
        refine ⟨k + 1, by omega, by go_num, ?_, ((hB.trans (hb2.mono hB.size)).setCell (p := ⟨w.heap.size, k, none⟩) (Nat.le_refl _) _)⟩
        have := (ho2.stored k (strV z)).1
        rw [HSk.out] at this
        exact this
      case measure => simp [intOf]; omega
    · obtain rfl : k = n := by omega
      go_wp2
      go_ret
      exact ⟨_, rfl, by have := ho; rw [HN.out, List.take_length, Nat.sub_self, List.replicate_zero, List.append_nil] at this; rw [HN.out]; exact this, hB⟩
end Go.Proofs.Ytoigogjklhahkaa.Disk
