/- What the document's Put of manifests returns. -/
import Derived.Test.YtajcmgccclemdaaManRef
import Derived.Test.YtajcmgccclemdaaManRefM2
import Derived.Deep.RegionWith
import Derived.Deep.RegionHeld3
set_option linter.unusedVariables false
namespace Go.Proofs.Ytajcmgccclemdaa.Man
open Go.RowKit Go.Shelf
open Go.Proofs.Ytajcmgccclemdaa.Page

theorem conv_byte (x : Int) (h0 : 0 ≤ x) (h1 : x ≤ 255) (W : World) (g : Nat) (hc : W.cell? ⟨g, 0, none⟩ = some (.int .u8 x)) :
    (convert 69 9 (.slice (some ⟨g, 0, none⟩) 1 1)).run Try.prog W = .ok (.string ⟨#[UInt8.ofNat x.toNat]⟩) W :=
  run_convert_bytes_back (P := Try.prog) W 69 9 5 ⟨g, 0, none⟩ 1 [UInt8.ofNat x.toNat] Try.underlying69 Try.underlying5 Try.underlying9 (fun j hj => by
    obtain rfl : j = 0 := by simpa using hj
    rw [addr_add, Nat.zero_add, hc]
    simp
    omega)
theorem cell_stay {X Y : World} (hb : Below X.heap.size X Y) (v : Value) (g : Nat) (h : X.cell? ⟨g, 0, none⟩ = some v) : Y.cell? ⟨g, 0, none⟩ = some v := by
  have hlt : g < X.heap.size := by
    apply Decidable.byContradiction
    intro hn
    simp only [World.cell?] at h
    rw [Array.getElem?_eq_none (by omega)] at h
    simp at h
  exact (hb.cell (p := ⟨g, 0, none⟩) hlt).trans h
theorem cell_one (W : World) (v : Value) (t : TypeId) : (W.alloc (.cells #[v] t)).cell? ⟨W.heap.size, 0, none⟩ = some v := by
  have := (RowAt.new W [v] t).cell 0
  exact this
theorem cell_made {W Y : World} {v : Value} {t : TypeId} (hb : Below (W.alloc (.cells #[v] t)).heap.size (W.alloc (.cells #[v] t)) Y) : Y.cell? ⟨W.heap.size, 0, none⟩ = some v := cell_stay hb _ _ (cell_one _ _ _)
theorem cell_made2 {W Y : World} {v : Value} {t : TypeId} (hb : Below (W.alloc (.cells #[v] t)).drew.heap.size (W.alloc (.cells #[v] t)).drew Y) : Y.cell? ⟨W.heap.size, 0, none⟩ = some v := cell_stay hb _ _ (cell_one _ _ _)
theorem accL (e n : Nat) (ps : List PartT) (k : Nat) (hk : k < ps.length) : (frontL e n ++ partsL (ps.take k)) ++ partL ps[k] = frontL e n ++ partsL (ps.take (k + 1)) := by
  rw [List.take_succ_eq_append_getElem hk, partsL_snoc, List.append_assoc]
theorem accL_len (e n : Nat) (ps : List PartT) (k : Nat) (hk : k ≤ ps.length) : (frontL e n ++ partsL (ps.take k)).length = 9 + 13 * k := by
  rw [List.length_append, partsL_len, List.length_take, Nat.min_eq_left hk]; rfl
set_option maxHeartbeats 60000000 in
set_option maxRecDepth 20000 in
theorem rmput_ok (m : ManT) (v : Value) (w : World) (h : HasParts w v m.2) (hok : okM m = true) (hf : FitM m) :
    Calls Try.prog 10 #[.agg #[.int .u64 (m.1 : Int), v]] w (StrIs (sectL m, 0) w) := by
  have cck := fun W (hb : Below w.heap.size w W) => rmcheck_any m v W (h.keep hb) hf
  rw [checkM_ok hok] at cck
  obtain ⟨⟨he1, he2⟩, hn8, hps⟩ := okM_parts hok
  obtain ⟨o, c, rfl, hl9, _⟩ := h.form
  have HPS : Hid (∀ p ∈ m.2, (∃ s : Nat, p.1 = (s : Int) ∧ s < 8) ∧ (1 ≤ p.2.1 ∧ p.2.1 ≤ 4611686018427387904) ∧ (∃ q : Nat, p.2.2 + 1 = (q : Int) ∧ q ≤ 1048577)) := hps
  have HC : Hid (∀ W, Below w.heap.size w W → HasParts W (.slice o m.2.length c) m.2) := fun W hb => h.keep hb
  have c8 := fun W => reight_any m.1 W (by omega)
  have cof := fun W => Crc.rofL (headL m) W (by rw [headL_len m hn8]; omega)
  have csum := fun W => Crc.rtext_any (Crc.onL 0 (headL m)) W (Crc.sum_lt _)
  have hHl := headL_len m hn8
  have hBl := bodyL_len m
  have cz := fun W => zeros_any (116 - (9 + 13 * m.2.length)) W (by omega)
  have HHEAD : Hid (headL m = bodyL m ++ List.replicate (116 - (9 + 13 * m.2.length)) 0) := by show _ = _; unfold headL; rw [hBl]
  have HBODY : Hid (bodyL m = frontL m.1 m.2.length ++ partsL (m.2.take m.2.length)) := by show _ = _; rw [List.take_length]; rfl
  have HSECT : Hid (sectL m = (headL m ++ sumM m) ++ eightL m.1) := by show _ = _; unfold sectL; rw [List.append_assoc]
  have HLEN : Hid ((headL m).length = 116 ∧ (bodyL m).length = 9 + 13 * m.2.length) := ⟨hHl, hBl⟩
  obtain ⟨X, hX⟩ : ∃ X, X = w.alloc (.cells #[.int .u64 (m.1 : Int), .slice o m.2.length c] 25) := ⟨_, rfl⟩
  have hB0 : Below w.heap.size w X := by rw [hX]; exact (Below.refl _ w).alloc (Nat.le_refl _) _
  have mb : Hid (MBox X w.heap.size m.1 (.slice o m.2.length c)) := by rw [hX]; exact RowAt.new w [_, _] _
  obtain ⟨e0, ps⟩ := m
  simp only at *
  rw [show Crc.textR (Crc.onL 0 (headL (e0, ps))) = sumM (e0, ps) from rfl] at csum
  obtain ⟨n, hn⟩ : ∃ n, n = ps.length := ⟨_, rfl⟩
  have HN : Hid (n = ps.length) := hn
  show Calls Try.prog 10 #[.agg #[.int .u64 (e0 : Int), .slice o ps.length c]] w _
  rw [← hn] at hX mb cck HC cz HHEAD HBODY HLEN hn8 ⊢
  have hei : (e0 : Int) ≤ 4611686018427387904 := by omega
  have hni : (n : Int) ≤ 8 := by omega
  clear hps h hf hok hn he1 he2 hHl hBl hl9
  obtain ⟨E, hE⟩ : ∃ E : ByteArray, E = ⟨(eightL e0).toArray⟩ := ⟨_, rfl⟩
  obtain ⟨O, hO⟩ : ∃ O : ByteArray, O = ⟨#[UInt8.ofNat ((n : Int)).toNat]⟩ := ⟨_, rfl⟩
  obtain ⟨F, hF⟩ : ∃ F : ByteArray, F = ⟨(frontL e0 n ++ partsL (ps.take 0)).toArray⟩ := ⟨_, rfl⟩
  have HF : Hid (E ++ O = F) := by
    show _ = _
    rw [hE, hO, hF, show (⟨#[UInt8.ofNat ((n : Int)).toNat]⟩ : ByteArray) = ⟨([UInt8.ofNat n] : List UInt8).toArray⟩ by simp, str_app]
    simp [frontL, partsL]
  have HFF : Hid (F = ⟨(frontL e0 n ++ partsL (ps.take 0)).toArray⟩) := hF
  have HEE : Hid (E = ⟨(eightL e0).toArray⟩) := hE
  have hEz : E.size ≤ 8 := by rw [hE]; exact Nat.le_refl _
  have hOz : O.size ≤ 1 := by rw [hO]; exact Nat.le_refl _
  have hcv := fun W g => conv_byte (n : Int) (by omega) (by omega) W g
  rw [← hO] at hcv
  rw [← hE] at c8
  clear hE hO hF
  have e0w : IntKind.u8.wrap (n : Int) = (n : Int) := by rw [IntKind.wrap_u8]; omega
  have n1 : ¬ 9223372036854775807 < E.size + O.size := by omega
  obtain ⟨m0, m1⟩ := MBox.cells mb.out
  unfold StrIs
  go_enter Try.func10, Try.ntmps10
  go_upto_region 1 with fail
  rw [← hX]
  clear hX
  go_wp2_with fail
  go_at_call 15; refine (cck _ hB0).mono ?_; rintro e w1 ⟨rfl, hb1⟩
  have hW1 := below2 hB0 hb1
  have mb : Hid (MBox w1 w.heap.size e0 (.slice o n c)) := RowAt.below mb.out hb1
  clear m0 m1 hB0 hb1 cck
  obtain ⟨m0, m1⟩ := MBox.cells mb.out
  go_wp2_with fail
  go_cut [4] (fun v wc => v = .string F ∧ Below w1.heap.size w1 wc)
  case first =>
    clear cof csum cz HC HPS HHEAD HBODY HSECT HLEN HEE HFF HN
    have HSK : Hid (∀ W, Below w1.heap.size w1 W → (W.cell? ⟨w.heap.size, 0, none⟩ = some (.int .u64 (e0 : Int)) ∧ W.cell? ⟨w.heap.size, 1, none⟩ = some (.slice o n c))) := fun W hb => MBox.cells (RowAt.below mb.out hb)
    have hlt1 : w.heap.size < w1.heap.size := RowAt.lt mb.out
    clear mb
    have hbA : Below w1.heap.size w1 w1 := Below.refl _ _
    go_region_held (fun w' => w'.cell? ⟨w.heap.size, 0, none⟩ = some (.int .u64 (e0 : Int)) ∧ w'.cell? ⟨w.heap.size, 1, none⟩ = some (.slice o n c))
      (first
        | (refine HSK.out _ ?_
           repeat' (first | with_reducible exact hbA | with_reducible apply Below.drew | with_reducible apply below_al))
        | go_keep)
      (first
        | (go_at_call 39
           refine (c8 _).mono ?_
           rintro e w3 ⟨rfl, hb3⟩
           (first | (with_reducible have hq := cell_made2 hb3) | (with_reducible have hq := cell_made hb3) | skip)
           have hbN : Below w1.heap.size w1 w3 := below2 (by repeat' (first | with_reducible exact hbA | with_reducible apply Below.drew | with_reducible apply below_al)) hb3
           clear hbA
           have hbA := hbN))
    all_goals go_wp2_with fail
    all_goals go_meet
    all_goals exact ⟨by rw [HF.out], by repeat' (first | with_reducible exact hbA | with_reducible apply Below.drew | with_reducible apply below_al)⟩
  case rest =>
    obtain ⟨rfl, hbc⟩ := hcut
    have hW := below2 hW1 hbc
    have mb : Hid (MBox wc w.heap.size e0 (.slice o n c)) := RowAt.below mb.out hbc
    clear m0 m1 hW1 hbc hcv e0w n1 HF hOz
    obtain ⟨m0, m1⟩ := MBox.cells mb.out
    go_wp2_with fail
    go_loopw [4, 23] (fun s i wr => ∃ (k : Nat) (A : ByteArray), k ≤ n ∧ i = .int .i64 k ∧ s = .string A ∧ Hid (A = ⟨(frontL e0 n ++ partsL (ps.take k)).toArray⟩) ∧ Below wc.heap.size wc wr) (fun _ i _ => n - (intOf i).toNat)
    case atStart => exact ⟨0, F, by omega, rfl, rfl, HFF, Below.refl _ _⟩
    case round =>
      obtain ⟨k, A, hk, rfl, rfl, HA, hB⟩ := hrel
      have hAz : A.size ≤ 9 + 13 * k := by rw [HA.out, size_list, accL_len e0 n ps k (by have := HN.out; omega)]; omega
      by_cases hlt : k < n
      · have hkz : k < ps.length := by rw [← HN.out]; exact hlt
        obtain ⟨_, _, ef, _, hcs⟩ := (HC.out wr (below2 hW hB)).form
        injection ef with ef1 ef2 ef3
        clear ef2
        subst ef1; subst ef3
        obtain ⟨b, i, rfl, hbs, c0, c1, c2⟩ := hcs k hkz
        obtain ⟨⟨sN, hs1, hs2⟩, ⟨ht1, ht2⟩, ⟨q, hq1, hq2⟩⟩ := HPS.out ps[k] (List.getElem_mem hkz)
        have HACC : Hid ((frontL e0 n ++ partsL (ps.take k)) ++ partL ps[k] = frontL e0 n ++ partsL (ps.take (k + 1))) := accL e0 n ps k hkz
        generalize ps[k] = p at c0 c1 c2 hs1 ht1 ht2 hq1 HACC
        obtain ⟨s, tg, mn⟩ := p
        simp only at c0 c1 c2 hs1 ht1 ht2 hq1
        subst hs1
        have ct := fun W => reight_any tg W (by omega)
        have cq := fun W => Crc.rtext_any q W (by omega)
        obtain ⟨E2, hE2⟩ : ∃ E : ByteArray, E = ⟨(eightL tg).toArray⟩ := ⟨_, rfl⟩
        obtain ⟨T2, hT2⟩ : ∃ E : ByteArray, E = ⟨(Crc.textR q).toArray⟩ := ⟨_, rfl⟩
        obtain ⟨O2, hO2⟩ : ∃ O : ByteArray, O = ⟨#[UInt8.ofNat ((sN : Int)).toNat]⟩ := ⟨_, rfl⟩
        obtain ⟨A2, hA2⟩ : ∃ O : ByteArray, O = ⟨(frontL e0 n ++ partsL (ps.take (k + 1))).toArray⟩ := ⟨_, rfl⟩
        have hcv := fun W g => conv_byte (sN : Int) (by omega) (by omega) W g
        rw [← hE2] at ct
        rw [← hT2] at cq
        rw [← hO2] at hcv
        have HAA : Hid (A ++ (O2 ++ E2 ++ T2) = A2) := by
          show _ = _
          rw [hA2, ← HACC.out, HA.out, hO2, hE2, hT2, show (⟨#[UInt8.ofNat ((sN : Int)).toNat]⟩ : ByteArray) = ⟨([UInt8.ofNat sN] : List UInt8).toArray⟩ by simp, str_app, str_app, str_app]
          have e9 : (mn + 1).toNat = q := by omega
          simp [partL, e9]
        have HA2 : Hid (A2 = ⟨(frontL e0 n ++ partsL (ps.take (k + 1))).toArray⟩) := hA2
        have hE2z : E2.size ≤ 8 := by rw [hE2]; exact Nat.le_refl _
        have hT2z : T2.size ≤ 4 := by rw [hT2]; exact Nat.le_refl _
        have hO2z : O2.size ≤ 1 := by rw [hO2]; exact Nat.le_refl _
        have n1 : ¬ 9223372036854775807 < O2.size + E2.size := by omega
        have n2 : ¬ 9223372036854775807 < O2.size + E2.size + T2.size := by omega
        have n3 : ¬ 9223372036854775807 < A.size + (O2.size + E2.size + T2.size) := by omega
        have w1' : IntKind.u8.wrap (sN : Int) = (sN : Int) := by rw [IntKind.wrap_u8]; omega
        have w2' : IntKind.i64.wrap (q : Int) = (q : Int) := by rw [IntKind.wrap_i64]; omega
        have w3' : IntKind.u32.wrap (q : Int) = (q : Int) := by rw [IntKind.wrap_u32]; omega
        have w4' : IntKind.i64.wrap (mn + 1) = (q : Int) := by rw [hq1]; exact w2'
        obtain ⟨Wa, hWa⟩ : ∃ Wa, Wa = wr.alloc (.cells #[.int .i64 (sN : Int), .int .u64 (tg : Int), .int .i64 mn] 71) := ⟨_, rfl⟩
        have hBa : Below wc.heap.size wc Wa := by rw [hWa]; exact hB.alloc hB.size _
        obtain ⟨bp, hbp⟩ : ∃ bp, bp = wr.heap.size := ⟨_, rfl⟩
        have pb : RowAt Wa bp [.int .i64 (sN : Int), .int .u64 (tg : Int), .int .i64 mn] 71 := by rw [hWa, hbp]; exact RowAt.new wr [_, _, _] _
        have HSK : Hid (∀ W, Below Wa.heap.size Wa W → (W.cell? ⟨bp, 0, none⟩ = some (.int .i64 (sN : Int)) ∧ W.cell? ⟨bp, 1, none⟩ = some (.int .u64 (tg : Int)) ∧ W.cell? ⟨bp, 2, none⟩ = some (.int .i64 mn))) := fun W hb => ⟨RowAt.cell (RowAt.below pb hb) 0, RowAt.cell (RowAt.below pb hb) 1, RowAt.cell (RowAt.below pb hb) 2⟩
        have hlt2 : bp < Wa.heap.size := RowAt.lt pb
        have hki : (k : Int) < (n : Int) := by omega
        go_upto_region 7 with fail
        rw [← hWa, ← hbp]
        clear hWa hbp c0 c1 c2 m0 m1 hcs hE2 hT2 hO2 hA2 pb c8 cof csum cz
        clear HC HPS HHEAD HBODY HSECT HLEN HEE HFF HN HACC HA mb hE2z hT2z hO2z hAz hs2 ht1 ht2 hq2 hkz hei hEz hB
        obtain ⟨x0, x1, x2⟩ := HSK.out Wa (Below.refl _ _)
        have hbA : Below Wa.heap.size Wa Wa := Below.refl _ _
        go_region_held (fun w' => w'.cell? ⟨bp, 0, none⟩ = some (.int .i64 (sN : Int)) ∧ w'.cell? ⟨bp, 1, none⟩ = some (.int .u64 (tg : Int)) ∧ w'.cell? ⟨bp, 2, none⟩ = some (.int .i64 mn))
          (first
            | (refine HSK.out _ ?_
               repeat' (first | with_reducible exact hbA | with_reducible apply Below.drew | with_reducible apply below_al))
            | go_keep)
          (first
            |
            (go_at_call 39
             refine (ct _).mono ?_
             rintro e w3 ⟨rfl, hb3⟩
             (first | (with_reducible have hq := cell_stay hb3 _ _ hq) | (with_reducible have hq := cell_made2 hb3) | (with_reducible have hq := cell_made hb3) | skip)
             have hbN : Below Wa.heap.size Wa w3 := below2 (by repeat' (first | with_reducible exact hbA | with_reducible apply Below.drew | with_reducible apply below_al)) hb3
             clear hbA
             have hbA := hbN)
            |
            (go_at_call 40
             refine (cq _).mono ?_
             rintro e w3 ⟨rfl, hb3⟩
             (first | (with_reducible have hq := cell_stay hb3 _ _ hq) | (with_reducible have hq := cell_made2 hb3) | (with_reducible have hq := cell_made hb3) | skip)
             have hbN : Below Wa.heap.size Wa w3 := below2 (by repeat' (first | with_reducible exact hbA | with_reducible apply Below.drew | with_reducible apply below_al)) hb3
             clear hbA
             have hbA := hbN))
        all_goals (have hBc : Below wc.heap.size wc _ := below2 hBa hbA)
        all_goals go_wp2_with fail
        all_goals go_roundw
        all_goals first
          | (case rel => exact ⟨k + 1, A2, by omega, by go_num, by rw [HAA.out], HA2, by repeat' (first | with_reducible exact hBc | with_reducible apply Below.drew | with_reducible apply below_al)⟩)
          | (case measure => simp [intOf]; omega)
      · obtain rfl : k = n := by omega
        have HBL : Hid (A = ⟨(bodyL (e0, ps)).toArray⟩) := by
          show _ = _
          rw [HA.out, HBODY.out]
        have hAe : A.size = 9 + 13 * k := by rw [HBL.out, size_list]; exact HLEN.out.2
        have e9 : ((116 - (9 + 13 * k) : Nat) : Int) = 116 - (A.size : Int) := by omega
        rw [e9] at cz
        have HAE : Hid (A.size = 9 + 13 * k) := hAe
        have hA2 : A.size ≤ 113 := by omega
        clear hAe e9 hAz
        obtain ⟨Z, hZ⟩ : ∃ Z : ByteArray, Z = ⟨(List.replicate (116 - (9 + 13 * k)) (0 : UInt8)).toArray⟩ := ⟨_, rfl⟩
        have hZz : Z.size ≤ 116 := by rw [hZ, size_list, List.length_replicate]; omega
        have HH : Hid (A ++ Z = ⟨(headL (e0, ps)).toArray⟩) := by
          show _ = _
          rw [HBL.out, hZ, str_app, HHEAD.out]
        rw [← hZ] at cz
        obtain ⟨Sm, hSm⟩ : ∃ Z : ByteArray, Z = ⟨(sumM (e0, ps)).toArray⟩ := ⟨_, rfl⟩
        have hSz : Sm.size ≤ 4 := by rw [hSm]; exact Nat.le_refl _
        have HSS : Hid ((A ++ Z) ++ Sm ++ E = ⟨(sectL (e0, ps)).toArray⟩) := by
          show _ = _
          rw [HH.out, hSm, HEE.out, str_app, str_app, HSECT.out]
        rw [← hSm] at csum
        rw [← HH.out] at cof
        clear hZ hSm
        have n0 : ¬ 9223372036854775807 < A.size + Z.size := by omega
        have w1' : IntKind.i64.wrap (116 - (A.size : Int)) = 116 - (A.size : Int) := by rw [IntKind.wrap_i64]; omega
        have mb : Hid (MBox wr w.heap.size e0 (.slice o k c)) := RowAt.below mb.out hB
        have hW := below2 hW hB
        have hszs : (A ++ Z).size = A.size + Z.size := ByteArray.size_append
        clear m0 m1
        go_wp2_with fail
        go_at_call 41; refine (cz _).mono ?_; rintro e w5 ⟨rfl, hb5⟩
        have mb : Hid (MBox w5 w.heap.size e0 (.slice o k c)) := RowAt.below mb.out hb5
        have hW := below2 hW hb5
        have HSZ : Hid ((A ++ Z).size ≤ 229) := by show _ ≤ _; omega
        clear cz hb5 hB
        go_upto_region 10 with fail
        generalize A ++ Z = Hd at cof HSS HSZ ⊢
        have hHd : Hd.size ≤ 229 := HSZ.out
        have n1 : ¬ 9223372036854775807 < Hd.size + Sm.size := by omega
        have n2 : ¬ 9223372036854775807 < Hd.size + Sm.size + E.size := by omega
        have z0 := fun p : Bl w5 => (MBox.cells (RowAt.below mb.out p.h)).1
        have z1 := fun p : Bl w5 => (MBox.cells (RowAt.below mb.out p.h)).2
        clear HC HPS HHEAD HBODY HLEN HEE HFF HN HBL HA mb HAE hszs
        haveI := bl_ne w5
        refine wp_region_bl (by kernel_rfl) (by kernel_rfl) ?_
        repeat (quiet_step ((first | (go_at_call 39; with_reducible exact bl_call (c8 _)) | (go_at_call 42; with_reducible exact bl_same (cof _)) | (go_at_call 40; with_reducible exact bl_call (csum _)))))
        refine wpQuiet_nil ?_
        intro _ hw'
        obtain ⟨⟨wq, hqq⟩, hw2⟩ := hw'
        subst hw2
        have hW := below2 hW hqq
        go_wp2
        go_ret2
        exact ⟨ret_strs HSS.out, hW⟩
set_option maxHeartbeats 1000000 in
theorem rmput_any (m : ManT) (v : Value) (w : World) (h : HasParts w v m.2) (hf : FitM m) :
    Calls Try.prog 10 #[.agg #[.int .u64 (m.1 : Int), v]] w (StrIs (putM m) w) := by
  cases hok : okM m
  · have cck := fun W (hb : Below w.heap.size w W) => rmcheck_any m v W (h.keep hb) hf
    rw [checkM_bad hok] at cck
    obtain ⟨o, c, rfl, hl9, _⟩ := h.form
    have HP : Hid (putM m = ([], 2)) := by show _ = _; rw [putM, hok]; rfl
    obtain ⟨X, hX⟩ : ∃ X, X = w.alloc (.cells #[.int .u64 (m.1 : Int), .slice o m.2.length c] 25) := ⟨_, rfl⟩
    have hB0 : Below w.heap.size w X := by rw [hX]; exact (Below.refl _ w).alloc (Nat.le_refl _) _
    have mb : MBox X w.heap.size m.1 (.slice o m.2.length c) := by rw [hX]; exact RowAt.new w [_, _] _
    obtain ⟨m0, m1⟩ := mb.cells
    unfold StrIs
    generalize putM m = R at HP ⊢
    go_enter Try.func10, Try.ntmps10
    go_upto_region 1 with fail
    rw [← hX]
    clear hX
    go_wp2_with fail
    go_at_call 15; refine (cck X hB0).mono ?_; rintro e w1 ⟨rfl, hb1⟩
    have hB1 := below2 hB0 hb1
    clear cck
    go_wp2
    go_ret2
    exact ⟨by rw [HP.out]; rfl, hB1⟩
  · have HP : putM m = (sectL m, 0) := by rw [putM, hok]; rfl
    rw [HP]
    exact rmput_ok m v w h hok hf
end Go.Proofs.Ytajcmgccclemdaa.Man
