/- What the document's Split, Join and Same return. -/
import Derived.Test.YtbikcpchlgmoaaaPageRef2
import Derived.Test.YtbikcpchlgmoaaaPageBackM
set_option linter.unusedVariables false
namespace Go.Proofs.Ytbikcpchlgmoaaa.Page
open Go.RowKit Go.Shelf
attribute [-go_sem] Builtin.append_

set_option maxHeartbeats 1000000 in
theorem same_any (v u : Value) (zs : List (List UInt8)) (w : World) (h1 : HasStrs w v zs) (h2 : HasStrs w u zs) (hz : zs.length ≤ 1000000000) :
    Calls Try.prog 21 #[v, u] w fun e w' => e = .returned (.bool true) ∧ Below w.heap.size w w' := by
  obtain ⟨o1, cap1, rfl, g1⟩ := h1
  obtain ⟨o2, cap2, rfl, g2⟩ := h2
  obtain ⟨n, hn⟩ : ∃ n, n = zs.length := ⟨_, rfl⟩
  have HN : Hid (n = zs.length) := hn
  have hnz : n ≤ 1000000000 := by omega
  rw [← hn]
  clear hn
  go_enter Try.func21, Try.ntmps21
  go_wp2_with fail
  go_loopw [13] (fun i wr => ∃ k : Nat, k ≤ n ∧ i = .int .i64 k ∧ Below w.heap.size w wr) (fun i _ => n - (intOf i).toNat)
  case atStart => exact ⟨0, by omega, rfl, Below.refl _ _⟩
  case round =>
    obtain ⟨k, hk, rfl, hB⟩ := hrel
    by_cases hlt : k < n
    · have hkz : k < zs.length := by rw [← HN.out]; exact hlt
      obtain ⟨b1, i1, rfl, q1, l1⟩ := g1 k hkz
      obtain ⟨b2, i2, rfl, q2, l2⟩ := g2 k hkz
      have r1 := ((hB.cell (p := ⟨b1, i1 + k, none⟩) l1)).trans q1
      have r2 := ((hB.cell (p := ⟨b2, i2 + k, none⟩) l2)).trans q2
      unfold strV at r1 r2
      generalize (⟨(zs[k]).toArray⟩ : ByteArray) = P at r1 r2
      clear q1 q2
      go_wp2_with fail
      go_quiet (fail)
      go_wp2
      go_roundw
      case rel => exact ⟨k + 1, by omega, by go_num, by first | exact hB | exact hB.drew | exact below_drewN hB _⟩
      case measure => simp [intOf]; omega
    · obtain rfl : k = n := by omega
      go_wp2
      go_ret
      exact ⟨rfl, hB⟩
theorem rows_split (t : Nat) (l : List UInt8) (k : Nat) (h : k < cntL l) : (splitL t l).take (k + 1) = (splitL t l).take k ++ [pageL (t + k) (pieceL l k)] := by
  have hk : k < (splitL t l).length := by rw [splitL_len]; exact h
  rw [List.take_succ_eq_append_getElem hk, splitL_at]
set_option maxHeartbeats 2000000 in
theorem rsplit_ok (t : Nat) (l : List UInt8) (w : World) (h0 : 1 ≤ t) (h1 : t ≤ 4611686018427387904) (hl : l.length ≤ 14208) :
    Calls Try.prog 38 #[.int .u64 (t : Int), .string ⟨l.toArray⟩] w (RowsIs (splitL t l, 0) w) := by
  have hti0 : ¬ ((t : Int) = 0) := by omega
  have hti1 : (t : Int) ≤ 4611686018427387904 := by omega
  have hd0 : ((t : Int) == 0) = false := by rw [beq_eq_false_iff_ne]; omega
  have hd1 : decide (4611686018427387904 < (t : Int)) = false := by rw [decide_eq_false_iff_not]; omega
  have hz : (⟨l.toArray⟩ : ByteArray).size = l.length := size_list l
  obtain ⟨S, hS⟩ : ∃ S : ByteArray, S = ⟨l.toArray⟩ := ⟨_, rfl⟩
  rw [← hS] at hz ⊢
  have HS : Hid (S = ⟨l.toArray⟩ ∧ S.size = l.length) := ⟨hS, hz⟩
  have hSs : S.size ≤ 14208 := by omega
  have hd2 : decide (14208 < (S.size : Int)) = false := by rw [decide_eq_false_iff_not]; omega
  have HC : Hid (cntL l ≤ 128 ∧ t ≤ 4611686018427387904 ∧ 1 ≤ t) := ⟨by unfold cntL; omega, h1, h0⟩
  have HL : Hid (l.length ≤ 14208) := hl
  clear hS hz h0 h1 hl
  unfold RowsIs
  go_enter Try.func38, Try.ntmps38
  go_wp2_with fail
  go_loopw [6, 7] (fun o p wr => ∃ (k : Nat) (V : Value), k ≤ cntL l ∧ p = .int .i64 ((111 * k : Nat) : Int) ∧ o = V ∧ Hid (wr.ownsRow w.heap.size 9 1 V k (((splitL t l).take k).map strV)) ∧ Below w.heap.size w wr) (fun _ p _ => l.length + 111 - (intOf p).toNat)
  case atStart => exact ⟨0, _, by omega, rfl, rfl, (World.ownsRow_nil _ _ _ _ : World.ownsRow _ _ _ _ _ _ _), Below.refl _ _⟩
  case round =>
    obtain ⟨k, V, hk, rfl, hV, HO, hB⟩ := hrel
    have hk2 : k ≤ 128 := by have := HC.out.1; omega
    obtain ⟨m, hm⟩ : ∃ m, m = 111 * k := ⟨_, rfl⟩
    rw [← hm]
    have HM : Hid (m = 111 * k) := hm
    have hm2 : m ≤ 14208 := by omega
    clear hm
    by_cases hlt : m < S.size
    · have hkc : k < cntL l := by unfold cntL; have := HM.out; have := HS.out.2; omega
      have e1 : IntKind.i64.wrap ((m : Int) + 111) = (m : Int) + 111 := by rw [IntKind.wrap_i64]; omega
      have e2 : IntKind.u64.wrap (k : Int) = (k : Int) := by rw [IntKind.wrap_u64]; omega
      have e3 : IntKind.u64.wrap ((t : Int) + (k : Int)) = (t : Int) + (k : Int) := by rw [IntKind.wrap_u64]; omega
      have k1 : ∀ W, (Instr.slice 9 (.string S) (some (.int .i64 (m : Int))) (some (.int .i64 (min ((m : Int) + 111) (S.size : Int)))) none).run Try.prog W = .ok (.string ⟨(pieceL l k).toArray⟩) W := by
        intro W
        rw [slice_lh W S Try.underlying9 _ _ (by omega) (by omega) (by omega), ← extract_piece l k]
        rw [show ((m : Int)).toNat = 111 * k by have := HM.out; omega, show (min ((m : Int) + 111) (S.size : Int)).toNat = min (111 * k + 111) l.length by have := HM.out; have := HS.out.2; omega]
        rw [HS.out.1]
      have cp := fun w => rput_any (t + k) (pieceL l k) w (by have := HC.out.2.1; omega) (by have := pieceL_len l k; omega)
      rw [putL_ok (by have := HC.out.2.2; omega) (pieceL_len l k), show ((t + k : Nat) : Int) = (t : Int) + (k : Int) by omega] at cp
      unfold StrIs at cp
      simp only at cp
      have HP : Hid ((splitL t l).take (k + 1) = (splitL t l).take k ++ [pageL (t + k) (pieceL l k)]) := rows_split t l k hkc
      obtain ⟨P, hP⟩ : ∃ P, P = pageL (t + k) (pieceL l k) := ⟨_, rfl⟩
      rw [← hP] at cp HP
      clear hP
      have hown := HO.out
      obtain ⟨oo, cc, rfl⟩ : ∃ oo cc, V = .slice oo k cc := by
        rcases hown.2 with ⟨rfl, h0⟩ | ⟨g, cap, cur, rfl, _⟩
        · exact ⟨none, 0, by rw [h0]⟩
        · exact ⟨_, _, rfl⟩
      subst hV
      clear hown
      go_wp2_with fail
      go_at_call 32; refine (cp _).mono ?_; rintro e w2 ⟨rfl, hb2⟩
      have hB2 := below2 hB hb2
      have hown2 := own_keep HO.out hb2
      obtain ⟨g, cap, w3, hrun, hown3, hgrow⟩ := append_str P hown2 (by omega) hB2.size
      have hB3 : Below w.heap.size w w3 := below_row (hB2.alloc hB2.size _) (by have := hB2.size; simp; omega) (Nat.le_refl _) (hown2.alloc _) hgrow
      have HO3 : Hid (w3.ownsRow w.heap.size 9 1 (.slice (some ⟨g, 0, none⟩) (k + 1) cap) (k + 1) (((splitL t l).take (k + 1)).map strV)) := by
        show World.ownsRow _ _ _ _ _ _ _
        rw [HP.out, List.map_append]
        exact hown3
      clear hown2 hown3 hgrow cp k1 hb2
      go_wp2
      go_roundw
      case rel =>
        refine ⟨k + 1, _, by omega, ?_, rfl, HO3, hB3⟩
        have := HM.out
        rw [show 111 * (k + 1) = m + 111 by omega]
        go_num
      case measure => have := HM.out; have := HS.out.2; simp [intOf]; omega
    · have hke : k = cntL l := by unfold cntL at hk ⊢; have := HM.out; have := HS.out.2; omega
      have HK : Hid (k = cntL l) := hke
      clear hke
      subst hV
      go_wp2
      go_ret2
      refine ⟨_, rfl, ?_, hB⟩
      have := HO.out
      rw [HK.out, List.take_of_length_le (by rw [splitL_len]; exact Nat.le_refl _)] at this
      rw [splitL_len]
      exact this
theorem rsplit_any (t : Nat) (l : List UInt8) (w : World) (ht : t < 18446744073709551616) (hl : l.length ≤ 9223372036854775807) :
    Calls Try.prog 38 #[.int .u64 (t : Int), .string ⟨l.toArray⟩] w (RowsIs (splitR t l) w) := by
  have hz : (⟨l.toArray⟩ : ByteArray).size = l.length := size_list l
  by_cases h : t = 0 ∨ 4611686018427387904 < t
  · rw [splitR, if_pos h]
    rcases h with h | h
    · subst h
      go_enter Try.func38, Try.ntmps38
      go_wp2
      go_ret2
      exact ⟨_, rfl, World.ownsRow_nil _ _ _ _, Below.refl _ _⟩
    · have hd0 : ((t : Int) == 0) = false := by rw [beq_eq_false_iff_ne]; omega
      have hd1 : decide (4611686018427387904 < (t : Int)) = true := by rw [decide_eq_true_iff]; omega
      go_enter Try.func38, Try.ntmps38
      go_wp2
      go_ret2
      exact ⟨_, rfl, World.ownsRow_nil _ _ _ _, Below.refl _ _⟩
  · rw [splitR, if_neg h]
    by_cases hlen : l.length ≤ 14208
    · rw [if_pos hlen]
      exact rsplit_ok t l w (by omega) (by omega) hlen
    · rw [if_neg hlen]
      have hd0 : ((t : Int) == 0) = false := by rw [beq_eq_false_iff_ne]; omega
      have hd1 : decide (4611686018427387904 < (t : Int)) = false := by rw [decide_eq_false_iff_not]; omega
      obtain ⟨S, hS⟩ : ∃ S : ByteArray, S = ⟨l.toArray⟩ := ⟨_, rfl⟩
      rw [← hS] at hz ⊢
      have hSs : S.size ≤ 9223372036854775807 := by omega
      have hd2 : decide (14208 < (S.size : Int)) = true := by rw [decide_eq_true_iff]; omega
      clear hS hz
      go_enter Try.func38, Try.ntmps38
      go_wp2
      go_ret2
      exact ⟨_, rfl, World.ownsRow_nil _ _ _ _, Below.refl _ _⟩
theorem wrap_next (T : Nat) (h : T < 18446744073709551616) : IntKind.u64.wrap ((T : Int) + 1) = (((T + 1) % two64 : Nat) : Int) := by
  rw [IntKind.wrap_u64]; unfold two64; omega
theorem tag0 (t : Nat) (h : t < 18446744073709551616) : (t + 0) % two64 = t := by unfold two64; omega
set_option maxHeartbeats 2000000 in
theorem rjoin_any (v : Value) (zs : List (List UInt8)) (t : Nat) (w : World) (h : HasStrs w v zs) (ht : t < 18446744073709551616) (hz : zs.length ≤ 9223372036854775807) (hzl : ∀ z ∈ zs, z.length ≤ 9223372036854775807) (hsum : (joinL zs t).1.length ≤ 140737488355328) :
    Calls Try.prog 75 #[v, .int .u64 (t : Int)] w fun e w' => e = .returned (.tuple #[.string ⟨(joinL zs t).1.toArray⟩, .int .i64 ((joinL zs t).2 : Int)]) ∧ Below w.heap.size w w' := by
  obtain ⟨o, cap, rfl, g⟩ := h
  obtain ⟨n, hn⟩ : ∃ n, n = zs.length := ⟨_, rfl⟩
  have HN : Hid (n = zs.length ∧ ∀ z ∈ zs, z.length ≤ 9223372036854775807) := ⟨hn, hzl⟩
  have HSm : Hid ((joinL zs t).1.length ≤ 140737488355328) := hsum
  have HT : Hid (t < 18446744073709551616) := ht
  have hnz : n ≤ 9223372036854775807 := by omega
  rw [← hn]
  clear hn hzl hz hsum
  have HG : Hid (∀ j (hj : j < zs.length), ∃ b i, o = some ⟨b, i, none⟩ ∧ w.cell? ⟨b, i + j, none⟩ = some (strV zs[j]) ∧ b < w.heap.size) := g
  have hti : (t : Int) ≤ 18446744073709551615 := by omega
  clear g ht
  go_enter Try.func75, Try.ntmps75
  go_wp2_with fail
  go_loopw [1, 6, 13] (fun tg al i wr => ∃ (k T : Nat) (acc : List UInt8), k ≤ n ∧ i = .int .i64 k ∧ tg = .int .u64 (T : Int) ∧ Hid (T = (t + k) % two64) ∧ al = .string ⟨acc.toArray⟩ ∧ Below w.heap.size w wr ∧
      Hid (joinL zs t = (acc ++ (joinL (zs.drop k) T).1, k + (joinL (zs.drop k) T).2))) (fun _ _ i _ => n - (intOf i).toNat)
  case atStart =>
    refine ⟨0, t, [], by omega, rfl, rfl, (tag0 t HT.out).symm, rfl, Below.refl _ _, ?_⟩
    show _ = _
    simp
  case round =>
    obtain ⟨k, T, acc, hk, rfl, rfl, HTk, rfl, hW, HJ⟩ := hrel
    have hsz := hW.size
    by_cases hlt : k < n
    · have hkz : k < zs.length := by rw [← HN.out.1]; exact hlt
      obtain ⟨b, i, rfl, q1, l1⟩ := HG.out k hkz
      have r1 := (hW.cell (p := ⟨b, i + k, none⟩) l1).trans q1
      have hzk := HN.out.2 _ (List.getElem_mem hkz)
      have hD : zs.drop k = zs[k] :: zs.drop (k + 1) := List.drop_eq_getElem_cons hkz
      generalize zs[k] = z at r1 hzk hD
      unfold strV at r1
      have hTl : T < 18446744073709551616 := by rw [HTk.out]; exact tag_lt t k
      have e2 := wrap_next T hTl
      obtain ⟨T2, hT2⟩ : ∃ T2, T2 = (T + 1) % two64 := ⟨_, rfl⟩
      rw [← hT2] at e2
      have cw := fun w => rget_any z T w hzk hTl
      unfold StrIs at cw
      obtain ⟨⟨d, y⟩, hg⟩ : ∃ gg, getL z T = gg := ⟨_, rfl⟩
      have hdl := getL_len z T
      rw [hg] at cw hdl
      simp only at cw hdl
      have hTi : (T : Int) ≤ 18446744073709551615 := by omega
      by_cases hy : y = 0
      · subst hy
        have HT2 : Hid (T2 = (t + (k + 1)) % two64) := by show _ = _; rw [hT2, HTk.out, next_tag]
        have HJ2 : Hid (joinL zs t = ((acc ++ d) ++ (joinL (zs.drop (k + 1)) T2).1, (k + 1) + (joinL (zs.drop (k + 1)) T2).2)) := by
          show _ = _
          rw [HJ.out, hD, joinL_ok hg, ← hT2]
          simp [List.append_assoc]; omega
        have hL : acc.length + d.length ≤ 140737488355328 := by
          have := HSm.out
          rw [HJ2.out] at this
          simp at this; omega
        have n1 : ¬ 9223372036854775807 < (⟨acc.toArray⟩ : ByteArray).size + (⟨d.toArray⟩ : ByteArray).size := by rw [size_list, size_list]; omega
        have HA : Hid ((⟨acc.toArray⟩ ++ ⟨d.toArray⟩ : ByteArray) = ⟨(acc ++ d).toArray⟩) := str_app acc d
        generalize (⟨acc.toArray⟩ : ByteArray) = A at n1 HA ⊢
        generalize (⟨d.toArray⟩ : ByteArray) = Dd at n1 HA cw
        clear q1 hD hT2 hg hTl
        go_wp2_with fail
        go_at_call 97; refine (cw _).mono ?_; rintro e w3 ⟨rfl, hb3⟩
        have hW3 := below2 hW hb3
        clear cw hb3
        go_wp2
        go_roundw
        case rel => exact ⟨k + 1, T2, acc ++ d, by omega, by go_num, rfl, HT2, by rw [HA.out], hW3, HJ2⟩
        case measure => simp [intOf]; omega
      · have HF : Hid (joinL zs t = (acc, k)) := by
          show _ = _
          rw [HJ.out, hD, joinL_bad (by rw [hg]; exact hy)]; simp
        have hy2 : (y != 0) = true := by simpa using hy
        clear q1 hD hT2 hg hTl
        go_wp2_with fail
        go_at_call 97; refine (cw _).mono ?_; rintro e w3 ⟨rfl, hb3⟩
        have hW3 := below2 hW hb3
        clear cw hb3
        go_wp2
        go_ret2
        exact ⟨ret_join (by rw [HF.out]) (by rw [HF.out]), hW3⟩
    · obtain rfl : k = n := by omega
      have HF : Hid (joinL zs t = (acc, k)) := by
        show _ = _
        rw [HJ.out, List.drop_of_length_le (by rw [HN.out.1]; exact Nat.le_refl _)]; simp [joinL]
      go_wp2
      go_ret2
      exact ⟨ret_join (by rw [HF.out]) (by rw [HF.out]), hW⟩
theorem joinL_le (zs : List (List UInt8)) : ∀ t, (joinL zs t).1.length ≤ 111 * zs.length := by
  induction zs with
  | nil => intro t; simp [joinL]
  | cons s r ih =>
    intro t
    rw [joinL]
    split
    · have h1 := getL_len s t
      have h2 := ih ((t + 1) % two64)
      simp only [List.length_append, List.length_cons]
      omega
    · simp
end Go.Proofs.Ytbikcpchlgmoaaa.Page
