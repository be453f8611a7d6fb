/- Manifests as plain data; what manifest.mayBeTag, mayBePart and Check return. -/
import Derived.Test.YtajcmgccclemdabManWalk
import Derived.Test.YtajcmgccclemdabDiskVar
set_option linter.unusedVariables false
namespace Go.Proofs.Ytajcmgccclemdab.Man
open Go.RowKit
open Go.Proofs.Ytajcmgccclemdab.Page
open Go.Proofs.Ytajcmgccclemdab.Disk (HasRow)

abbrev PartT : Type := Int × Nat × Int
abbrev ManT : Type := Nat × List PartT
def partC (p : PartT) : List Value := [.int .i64 p.1, .int .u64 (p.2.1 : Int), .int .i64 p.2.2]
def partCs (ps : List PartT) : List Value := ps.flatMap partC
theorem partCs_len (ps : List PartT) : (partCs ps).length = ps.length * 3 := by
  induction ps with
  | nil => rfl
  | cons p ps ih => rw [partCs, List.flatMap_cons, List.length_append, ← partCs, ih, List.length_cons]; simp [partC]; omega
theorem partCs_at (ps : List PartT) : ∀ (k : Nat) (h : k < ps.length), (partCs ps)[k * 3]? = some (.int .i64 ps[k].1) ∧ (partCs ps)[k * 3 + 1]? = some (.int .u64 (ps[k].2.1 : Int)) ∧ (partCs ps)[k * 3 + 2]? = some (.int .i64 ps[k].2.2) := by
  induction ps with
  | nil => intro k h; simp at h
  | cons p ps ih =>
    intro k h
    cases k with
    | zero => exact ⟨rfl, rfl, rfl⟩
    | succ k =>
      have := ih k (by simpa using h)
      have e : partCs (p :: ps) = partC p ++ partCs ps := rfl
      have l3 : (partC p).length = 3 := rfl
      rw [e, List.getElem?_append_right (by rw [l3]; omega), List.getElem?_append_right (by rw [l3]; omega), List.getElem?_append_right (by rw [l3]; omega), l3]
      rw [show (k + 1) * 3 - 3 = k * 3 by omega, show (k + 1) * 3 + 1 - 3 = k * 3 + 1 by omega, show (k + 1) * 3 + 2 - 3 = k * 3 + 2 by omega]
      exact this
def HasParts (W : World) (v : Value) (ps : List PartT) : Prop := HasRow W v 3 ps.length (partCs ps)
theorem HasParts.keep {W W' : World} {v : Value} {ps : List PartT} (h : HasParts W v ps) (hb : Below W.heap.size W W') : HasParts W' v ps := Disk.HasRow.keep' h hb
theorem HasParts.form {W : World} {v : Value} {ps : List PartT} (h : HasParts W v ps) : ∃ o c, v = .slice o ps.length c ∧ ps.length ≤ 9223372036854775807 ∧ ∀ k (hk : k < ps.length), ∃ b i, o = some ⟨b, i, none⟩ ∧ b < W.heap.size ∧ W.cell? ⟨b, i + k * 3, none⟩ = some (.int .i64 ps[k].1) ∧ W.cell? ⟨b, i + k * 3 + 1, none⟩ = some (.int .u64 (ps[k].2.1 : Int)) ∧ W.cell? ⟨b, i + k * 3 + 2, none⟩ = some (.int .i64 ps[k].2.2) := by
  rcases h.2 with ⟨rfl, h0⟩ | ⟨a, cap, rfl, h1, h2, hs, hc⟩
  · exact ⟨none, 0, by rw [h0], by omega, fun k hk => by omega⟩
  · refine ⟨some a, cap, rfl, by omega, fun k hk => ?_⟩
    obtain ⟨b, i, sp⟩ := a
    obtain ⟨h3, h4⟩ := hs (by omega)
    simp only at h3 h4
    subst h3
    have c0 := hc (k * 3) (by omega)
    have c1 := hc (k * 3 + 1) (by omega)
    have c2 := hc (k * 3 + 2) (by omega)
    rw [addr_add] at c0 c1 c2
    obtain ⟨p0, p1, p2⟩ := partCs_at ps k hk
    exact ⟨b, i, rfl, h4, c0.trans p0, by rw [Nat.add_assoc]; exact c1.trans p1, by rw [Nat.add_assoc]; exact c2.trans p2⟩
def FitP (p : PartT) : Prop := (-9223372036854775808 ≤ p.1 ∧ p.1 ≤ 9223372036854775807) ∧ p.2.1 < 18446744073709551616 ∧ (-9223372036854775808 ≤ p.2.2 ∧ p.2.2 ≤ 9223372036854775807)
def FitM (m : ManT) : Prop := m.1 < 18446744073709551616 ∧ ∀ p ∈ m.2, FitP p

def mayB (p : PartT) (last : Bool) : Bool := decide (0 ≤ p.1 ∧ p.1 < 8) && decide (1 ≤ p.2.1 ∧ p.2.1 ≤ 4611686018427387904) && (decide (0 ≤ p.2.2 ∧ p.2.2 ≤ 1048576) || (decide (p.2.2 = -1) && last))
def okP (seen : List Int) (ahead : Nat) : List PartT → Bool
  | [] => true
  | p :: r => mayB p r.isEmpty && (!(seen.contains p.1) && (decide (ahead < p.2.1) && okP (p.1 :: seen) p.2.1 r))
def okM (m : ManT) : Bool := decide (1 ≤ m.1 ∧ m.1 ≤ 4611686018427387904) && (decide (m.2.length ≤ 8) && okP [] 0 m.2)
def checkM (m : ManT) : Int := if okM m = true then 0 else 2
theorem ret_bool {a b : Bool} (h : a = b) : Ending.returned (.bool a) = .returned (.bool b) := by rw [h]

theorem mayTag_any (n : Nat) (w : World) (h : n < 18446744073709551616) :
    Calls Try.prog 100 #[.int .u64 (n : Int)] w fun e w' => e = .returned (.bool (decide (1 ≤ n ∧ n ≤ 4611686018427387904))) ∧ w' = w := by
  have hi : (n : Int) ≤ 18446744073709551615 := by omega
  go_enter Try.func100, Try.ntmps100
  go_wp2
  all_goals go_ret
  all_goals refine ⟨ret_bool ?_, rfl⟩
  all_goals (by_cases h1 : 1 ≤ n <;> by_cases h2 : n ≤ 4611686018427387904 <;> simp [h1, h2] <;> omega)
set_option maxHeartbeats 2000000 in
theorem mayPart_any (p : PartT) (last : Bool) (w : World) (h : FitP p) :
    Calls Try.prog 101 #[.agg #[.int .i64 p.1, .int .u64 (p.2.1 : Int), .int .i64 p.2.2], .bool last] w fun e w' => e = .returned (.bool (mayB p last)) ∧ Below w.heap.size w w' := by
  obtain ⟨s, t, m⟩ := p
  obtain ⟨h1, h2, h3⟩ := h
  simp only at h1 h2 h3
  have ct := fun w => mayTag_any t w h2
  have HM : Hid (mayB (s, t, m) last = (decide (0 ≤ s ∧ s < 8) && decide (1 ≤ t ∧ t ≤ 4611686018427387904) && (decide (0 ≤ m ∧ m ≤ 1048576) || (decide (m = -1) && last)))) := rfl
  obtain ⟨tb, htb⟩ : ∃ tb, tb = decide (1 ≤ t ∧ t ≤ 4611686018427387904) := ⟨_, rfl⟩
  rw [← htb] at ct HM
  have hti : (t : Int) ≤ 18446744073709551615 := by omega
  clear htb h2
  generalize mayB (s, t, m) last = R at HM ⊢
  simp only
  go_enter Try.func101, Try.ntmps101
  by_cases hs : 0 ≤ s ∧ s < 8
  · have d1 : decide (s < 0) = false := by rw [decide_eq_false_iff_not]; omega
    have d2 : decide (8 ≤ s) = false := by rw [decide_eq_false_iff_not]; omega
    have HM2 : Hid (R = (tb && (decide (0 ≤ m ∧ m ≤ 1048576) || (decide (m = -1) && last)))) := by show _ = _; rw [HM.out, decide_eq_true hs, Bool.true_and]
    go_wp2_with fail
    go_at_call 100; refine (ct _).mono ?_; rintro e w1 ⟨rfl, rfl⟩
    cases tb
    · go_wp2
      go_ret
      exact ⟨ret_bool (by rw [HM2.out]; rfl), (Below.refl _ _).alloc (Nat.le_refl _) _⟩
    · go_wp2
      all_goals go_ret
      all_goals refine ⟨ret_bool ?_, (Below.refl _ _).alloc (Nat.le_refl _) _⟩
      all_goals rw [HM2.out]
      all_goals cases last
      all_goals (by_cases q1 : 0 ≤ m <;> by_cases q2 : m ≤ 1048576 <;> by_cases q3 : m = -1 <;> simp [q1, q2, q3] <;> omega)
  · have HM2 : Hid (R = false) := by show _ = _; rw [HM.out, decide_eq_false hs]; rfl
    rcases (show s < 0 ∨ 8 ≤ s by omega) with hc | hc
    · have d1 : decide (s < 0) = true := by simpa using hc
      go_wp2
      go_ret
      exact ⟨ret_bool (by rw [HM2.out]), (Below.refl _ _).alloc (Nat.le_refl _) _⟩
    · have d1 : decide (s < 0) = false := by rw [decide_eq_false_iff_not]; omega
      have d2 : decide (8 ≤ s) = true := by simpa using hc
      go_wp2
      go_ret
      exact ⟨ret_bool (by rw [HM2.out]), (Below.refl _ _).alloc (Nat.le_refl _) _⟩
/-- a manifest in its variable -/
def MBox (W : World) (B : Nat) (e : Nat) (v : Value) : Prop := RowAt W B [.int .u64 (e : Int), v] 57
theorem MBox.cells {W : World} {B e : Nat} {v : Value} (h : MBox W B e v) : W.cell? ⟨B, 0, none⟩ = some (.int .u64 (e : Int)) ∧ W.cell? ⟨B, 1, none⟩ = some v := ⟨RowAt.cell h 0, RowAt.cell h 1⟩
def takenC (seen : List Int) : List Value := (List.range 8).map fun (s : Nat) => Value.bool (seen.contains (s : Int))
theorem takenC_nil : takenC [] = [.bool false, .bool false, .bool false, .bool false, .bool false, .bool false, .bool false, .bool false] := by simp [takenC, List.range, List.range.loop]
theorem takenC_at (seen : List Int) (s : Nat) (h : s < 8) : (takenC seen)[s]? = some (.bool (seen.contains (s : Int))) := by
  rw [takenC, List.getElem?_map, List.getElem?_range h]; rfl
theorem takenC_set (seen : List Int) (s : Nat) (h : s < 8) : (takenC seen).set s (.bool true) = takenC ((s : Int) :: seen) := by
  apply List.ext_getElem?
  intro j
  rw [List.getElem?_set]
  have hl : (takenC seen).length = 8 := by simp [takenC]
  by_cases hj : s = j
  · subst hj
    rw [if_pos rfl, if_pos (by omega), takenC_at _ _ h]
    simp
  · rw [if_neg hj]
    by_cases h8 : j < 8
    · rw [takenC_at _ _ h8, takenC_at _ _ h8]
      simp
      intro hc; omega
    · rw [List.getElem?_eq_none (by rw [hl]; omega), List.getElem?_eq_none (by simp [takenC]; omega)]
theorem mayB_seg {p : PartT} {b : Bool} (h : mayB p b = true) : ∃ s : Nat, p.1 = (s : Int) ∧ s < 8 := by
  simp only [mayB, Bool.and_eq_true, decide_eq_true_eq] at h
  exact ⟨p.1.toNat, by omega, by omega⟩
set_option maxHeartbeats 4000000 in
theorem check_any (m : ManT) (v : Value) (w : World) (h : HasParts w v m.2) (hf : FitM m) :
    Calls Try.prog 83 #[.agg #[.int .u64 (m.1 : Int), v]] w fun e w' => e = .returned (.int .i64 (checkM m)) ∧ Below w.heap.size w w' := by
  obtain ⟨e, ps⟩ := m
  obtain ⟨hf1, hf2⟩ := hf
  simp only at hf1 hf2 h ⊢
  obtain ⟨o, c, rfl, hn9, hcell⟩ := h.form
  obtain ⟨n, hn⟩ : ∃ n, n = ps.length := ⟨_, rfl⟩
  rw [← hn] at hn9 ⊢
  have HN : Hid (n = ps.length) := hn
  have HC : Hid (∀ k (hk : k < ps.length), ∃ b i, o = some ⟨b, i, none⟩ ∧ b < w.heap.size ∧ w.cell? ⟨b, i + k * 3, none⟩ = some (.int .i64 ps[k].1) ∧ w.cell? ⟨b, i + k * 3 + 1, none⟩ = some (.int .u64 (ps[k].2.1 : Int)) ∧ w.cell? ⟨b, i + k * 3 + 2, none⟩ = some (.int .i64 ps[k].2.2)) := hcell
  have HF : Hid (∀ p ∈ ps, FitP p) := hf2
  have HK : Hid (checkM (e, ps) = if (decide (1 ≤ e ∧ e ≤ 4611686018427387904) && (decide (n ≤ 8) && okP [] 0 ps)) = true then 0 else 2) := by show _ = _; rw [checkM, okM, hn]
  have ct := fun w => mayTag_any e w hf1
  obtain ⟨eb, heb⟩ : ∃ eb, eb = decide (1 ≤ e ∧ e ≤ 4611686018427387904) := ⟨_, rfl⟩
  rw [← heb] at ct HK
  generalize checkM (e, ps) = R at HK ⊢
  clear hn heb hcell hf2 h
  obtain ⟨X, hX⟩ : ∃ X, X = w.alloc (.cells #[.int .u64 (e : Int), .slice o n c] 57) := ⟨_, rfl⟩
  have hB0 : Below w.heap.size w X := by rw [hX]; exact (Below.refl _ w).alloc (Nat.le_refl _) _
  have mb : MBox X w.heap.size e (.slice o n c) := by rw [hX]; exact RowAt.new w [_, _] _
  have hXs : X.heap.size = w.heap.size + 1 := by rw [hX]; simp
  obtain ⟨m0, m1⟩ := mb.cells
  go_enter Try.func83, Try.ntmps83
  go_wp2_with fail
  rw [← hX]
  go_at_call 100; refine (ct _).mono ?_; rintro e2 w1 ⟨rfl, rfl⟩
  clear hX ct
  cases eb
  · go_wp2
    go_ret
    exact ⟨by rw [HK.out]; rfl, hB0⟩
  · by_cases hn8 : n ≤ 8
    · have d1 : decide (8 < (n : Int)) = false := by rw [decide_eq_false_iff_not]; omega
      go_upto_region 4 with fail
      obtain ⟨Y, hY⟩ : ∃ Y, Y = w1.alloc (.cells #[.bool false, .bool false, .bool false, .bool false, .bool false, .bool false, .bool false, .bool false] 162) := ⟨_, rfl⟩
      have hBY : Below w.heap.size w Y := by rw [hY]; exact hB0.alloc hB0.size _
      have mbY : MBox Y w.heap.size e (.slice o n c) := by rw [hY]; exact RowAt.alloc mb _
      have tkY : RowAt Y w1.heap.size (takenC []) 162 := by rw [hY, takenC_nil]; exact RowAt.new w1 _ _
      rw [← hY]
      rw [hXs] at tkY
      clear hY m0 m1 mb hB0
      obtain ⟨m0, m1⟩ := mbY.cells
      have HK2 : Hid (R = if okP [] 0 ps = true then 0 else 2) := by show _ = _; rw [HK.out, decide_eq_true hn8]; rfl
      go_wp2_with fail
      go_loopw [4, 21] (fun t i wr => ∃ (k ahead : Nat) (seen : List Int), k ≤ n ∧ i = .int .i64 k ∧ t = .int .u64 (ahead : Int) ∧ (ahead : Int) ≤ 18446744073709551615 ∧ RowAt wr (w.heap.size + 1) (takenC seen) 162 ∧ MBox wr w.heap.size e (.slice o n c) ∧ Below w.heap.size w wr ∧ Hid (okP [] 0 ps = okP seen ahead (ps.drop k))) (fun _ i _ => n - (intOf i).toNat)
      case atStart => exact ⟨0, 0, [], by omega, rfl, rfl, by omega, tkY, mbY, hBY, rfl⟩
      case round =>
        obtain ⟨k, ahead, seen, hk, rfl, rfl, hah, tk, mbr, hB, HO⟩ := hrel
        clear m0 m1
        obtain ⟨m0, m1⟩ := mbr.cells
        by_cases hlt : k < n
        · have hkz : k < ps.length := by rw [← HN.out]; exact hlt
          obtain ⟨b, i, rfl, hb, c0, c1, c2⟩ := HC.out k hkz
          have r0 := (hB.cell (p := ⟨b, i + k * 3, none⟩) hb).trans c0
          have r1 := (hB.cell (p := ⟨b, i + k * 3 + 1, none⟩) hb).trans c1
          have r2 := (hB.cell (p := ⟨b, i + k * 3 + 2, none⟩) hb).trans c2
          have hD : ps.drop k = ps[k] :: ps.drop (k + 1) := List.drop_eq_getElem_cons hkz
          have hfp := HF.out ps[k] (List.getElem_mem hkz)
          generalize ps[k] = p at r0 r1 r2 hD hfp
          have hemp : (ps.drop (k + 1)).isEmpty = ((k : Int) == (n : Int) - 1) := by
            have := HN.out
            rw [Bool.eq_iff_iff, List.isEmpty_iff, List.drop_eq_nil_iff, beq_iff_eq]
            omega
          obtain ⟨lb, hlb⟩ : ∃ lb, ((k : Int) == (n : Int) - 1) = lb := ⟨_, rfl⟩
          rw [hlb] at hemp
          have HO2 : Hid (okP [] 0 ps = (mayB p lb && (!(seen.contains p.1) && (decide (ahead < p.2.1) && okP (p.1 :: seen) p.2.1 (ps.drop (k + 1)))))) := by
            show _ = _; rw [HO.out, hD, okP, hemp]
          have cm := fun w => mayPart_any p lb w hfp
          obtain ⟨mbv, hmv⟩ : ∃ mbv, mbv = mayB p lb := ⟨_, rfl⟩
          have HMS : Hid (mbv = true → ∃ s : Nat, p.1 = (s : Int) ∧ s < 8) := by rw [hmv]; exact mayB_seg
          rw [← hmv] at cm HO2
          obtain ⟨s, tg, mn⟩ := p
          obtain ⟨hs9, ht9, hm9⟩ := hfp
          simp only at r0 r1 r2 HO2 cm HMS hs9 ht9 hm9
          obtain ⟨Wa, hWa⟩ : ∃ Wa, Wa = wr.alloc (.cells #[.int .i64 s, .int .u64 (tg : Int), .int .i64 mn] 54) := ⟨_, rfl⟩
          have hba : Below wr.heap.size wr Wa := by rw [hWa]; exact (Below.refl _ _).alloc (Nat.le_refl _) _
          have pa : RowAt Wa wr.heap.size [.int .i64 s, .int .u64 (tg : Int), .int .i64 mn] 54 := by rw [hWa]; exact RowAt.new wr _ _
          have mba : MBox Wa w.heap.size e (.slice (some ⟨b, i, none⟩) n c) := RowAt.below mbr hba
          obtain ⟨na0, na1⟩ := mba.cells
          have pa0 := pa.cell 0
          have pa1 := pa.cell 1
          have pa2 := pa.cell 2
          simp only [List.getElem?_cons_zero, List.getElem?_cons_succ] at pa0 pa1 pa2
          clear hD hemp hmv c0 c1 c2 HO
          go_upto_region 8 with fail
          rw [← hWa]
          clear hWa m0 m1
          go_wp2_with fail
          go_at_call 101; refine (cm _).mono ?_; rintro e2 w2 ⟨rfl, hb2⟩
          have hB2 := below2 (below2 hB hba) hb2
          have tk2 := (tk.below hba).below hb2
          have mb2 : MBox w2 w.heap.size e (.slice (some ⟨b, i, none⟩) n c) := RowAt.below mba hb2
          have pb := pa.below hb2
          have pb0 := pb.cell 0
          have pb1 := pb.cell 1
          simp only [List.getElem?_cons_zero, List.getElem?_cons_succ] at pb0 pb1
          clear cm pa0 pa1 pa2 na0 na1 pa mba r0 r1 r2
          have hti : (tg : Int) ≤ 18446744073709551615 := by omega
          cases mbv
          · have HF2 : Hid (R = 2) := by show _ = _; rw [HK2.out, HO2.out]; rfl
            go_wp2
            go_ret
            exact ⟨by rw [HF2.out]; rfl, hB2⟩
          · obtain ⟨sn, rfl, hsn⟩ := HMS.out rfl
            have t1 := tk2.cell sn
            rw [takenC_at seen sn hsn] at t1
            have hsi : (sn : Int) < 8 := by omega
            cases hsc : seen.contains (sn : Int)
            · rw [hsc] at t1
              by_cases hat : ahead < tg
              · have dl : decide ((tg : Int) ≤ (ahead : Int)) = false := by rw [decide_eq_false_iff_not]; omega
                have HO3 : Hid (okP [] 0 ps = okP ((sn : Int) :: seen) tg (ps.drop (k + 1))) := by
                  show _ = _; rw [HO2.out, hsc, decide_eq_true hat]; simp
                have f1 := tk2.frozen sn
                have tk3 : RowAt (w2.setCell ⟨w.heap.size + 1, sn, none⟩ (.bool true)) (w.heap.size + 1) (takenC ((sn : Int) :: seen)) 162 := by
                  rw [tk2.setCell, takenC_set seen sn hsn]; exact tk2.set _
                have mb3 : MBox (w2.setCell ⟨w.heap.size + 1, sn, none⟩ (.bool true)) w.heap.size e (.slice (some ⟨b, i, none⟩) n c) := by
                  rw [tk2.setCell]; exact RowAt.other mb2 (by omega) _
                have hB3 : Below w.heap.size w (w2.setCell ⟨w.heap.size + 1, sn, none⟩ (.bool true)) := hB2.setCell (p := ⟨w.heap.size + 1, sn, none⟩) (by simp) _
                have pc1 : (w2.setCell ⟨w.heap.size + 1, sn, none⟩ (.bool true)).cell? ⟨wr.heap.size, 1, none⟩ = some (.int .u64 (tg : Int)) := by
                  have hpc : RowAt (w2.setCell ⟨w.heap.size + 1, sn, none⟩ (.bool true)) wr.heap.size [.int .i64 (sn : Int), .int .u64 (tg : Int), .int .i64 mn] 54 := by
                    rw [tk2.setCell]; exact RowAt.other pb (by have := tk.lt; omega) _
                  exact hpc.cell 1
                have pc2 : (w2.drew.setCell ⟨w.heap.size + 1, sn, none⟩ (.bool true)).cell? ⟨wr.heap.size, 1, none⟩ = some (.int .u64 (tg : Int)) := pc1
                clear HO2 hsc tk2 mb2 hB2
                go_wp2_with fail
                go_region
                all_goals go_wp2
                all_goals go_roundw
                all_goals first
                  | exact ⟨k + 1, tg, (sn : Int) :: seen, by omega, by go_num, rfl, hti, by first | exact tk3 | exact tk3.drew, by first | exact mb3 | exact RowAt.drew mb3, by first | exact hB3 | exact hB3.drew, HO3⟩
                  | (simp [intOf]; omega)
              · have dl : decide ((tg : Int) ≤ (ahead : Int)) = true := by rw [decide_eq_true_iff]; omega
                have HF2 : Hid (R = 2) := by show _ = _; rw [HK2.out, HO2.out, decide_eq_false hat]; simp
                go_wp2
                go_ret
                exact ⟨by rw [HF2.out]; rfl, hB2⟩
            · rw [hsc] at t1
              have HF2 : Hid (R = 2) := by show _ = _; rw [HK2.out, HO2.out, hsc]; simp
              go_wp2
              go_ret
              exact ⟨by rw [HF2.out]; rfl, hB2⟩
        · obtain rfl : k = n := by omega
          have HF2 : Hid (R = 0) := by
            show _ = _
            rw [HK2.out, HO.out, List.drop_of_length_le (by rw [HN.out]; exact Nat.le_refl _)]; rfl
          go_wp2
          go_ret
          exact ⟨by rw [HF2.out]; rfl, hB⟩
    · have d1 : decide (8 < (n : Int)) = true := by rw [decide_eq_true_iff]; omega
      go_wp2
      go_ret
      exact ⟨by rw [HK.out, decide_eq_false hn8]; rfl, hB0⟩
end Go.Proofs.Ytajcmgccclemdab.Man
