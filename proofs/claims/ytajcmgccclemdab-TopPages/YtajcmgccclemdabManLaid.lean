/- A manifest's sector; what manifest.laid returns. -/
import Derived.Test.YtajcmgccclemdabManCheck
set_option linter.unusedVariables false
namespace Go.Proofs.Ytajcmgccclemdab.Man
open Go.RowKit
open Go.Proofs.Ytajcmgccclemdab.Page

def partL (p : PartT) : List UInt8 := UInt8.ofNat p.1.toNat :: (eightL p.2.1 ++ Crc.textR (p.2.2 + 1).toNat)
theorem partL_len (p : PartT) : (partL p).length = 13 := rfl
def partsL (ps : List PartT) : List UInt8 := ps.flatMap partL
theorem partsL_len (ps : List PartT) : (partsL ps).length = 13 * ps.length := by
  induction ps with
  | nil => rfl
  | cons p ps ih => rw [partsL, List.flatMap_cons, List.length_append, ← partsL, ih, partL_len, List.length_cons]; omega
theorem partsL_snoc (ps : List PartT) (p : PartT) : partsL (ps ++ [p]) = partsL ps ++ partL p := by simp [partsL]
def frontL (e n : Nat) : List UInt8 := eightL e ++ [UInt8.ofNat n]
def bodyL (m : ManT) : List UInt8 := frontL m.1 m.2.length ++ partsL m.2
theorem bodyL_len (m : ManT) : (bodyL m).length = 9 + 13 * m.2.length := by rw [bodyL, List.length_append, partsL_len]; rfl
def headL (m : ManT) : List UInt8 := bodyL m ++ List.replicate (116 - (bodyL m).length) 0
theorem headL_len (m : ManT) (h : m.2.length ≤ 8) : (headL m).length = 116 := by
  have := bodyL_len m
  rw [headL, List.length_append, List.length_replicate]; omega
def sumM (m : ManT) : List UInt8 := Crc.textR (Crc.onL 0 (headL m))
def sectL (m : ManT) : List UInt8 := headL m ++ (sumM m ++ eightL m.1)
theorem sectL_len (m : ManT) (h : m.2.length ≤ 8) : (sectL m).length = 128 := by
  rw [sectL, List.length_append, headL_len m h, List.length_append]; rfl
/-- a sector of which so much has been put -/
def padL (D : List UInt8) : List UInt8 := D ++ List.replicate (128 - D.length) 0
theorem padL_len {D : List UInt8} (h : D.length ≤ 128) : (padL D).length = 128 := by simp [padL]; omega
theorem pad_put {D b : List UInt8} (h : D.length + b.length ≤ 128) : putIn (padL D) D.length b = padL (D ++ b) := by
  rw [putIn, padL, List.take_left' rfl, List.drop_append, List.drop_of_length_le (by omega), List.nil_append, List.drop_replicate, padL, List.length_append]
  congr 2; omega
theorem pad_full {D : List UInt8} (h : D.length = 128) : padL D = D := by simp [padL, h]
theorem pad_head (m : ManT) (h : m.2.length ≤ 8) : padL (bodyL m) = padL (headL m) := by
  have h1 := bodyL_len m
  have h2 := headL_len m h
  rw [padL, padL, h2, headL, List.append_assoc, List.replicate_append_replicate]
  congr 2; omega
theorem take_pad {D : List UInt8} {n : Nat} (h : D.length = n) : (padL D).take n = D := by rw [padL, List.take_left' h]
theorem sinfo : (Try.prog.info? 142).map (·.zero) = some (some (.agg (List.replicate 128 zero8 ++ [Value.int .i64 0]).toArray)) := by kernel_rfl
theorem zeroSec (w : World) : (zeroValue 142).run Try.prog w = .ok (.agg (List.replicate 128 zero8 ++ [Value.int .i64 0]).toArray) w := by
  have h := sinfo
  cases hq : Try.prog.info? 142 with
  | none => rw [hq] at h; cases h
  | some i =>
    have hz : i.zero = some (.agg (List.replicate 128 zero8 ++ [Value.int .i64 0]).toArray) := by rw [hq] at h; exact Option.some.inj h
    simp [zeroValue, typeInfo, hq, hz]
theorem sec_new (w : World) : Sec (w.alloc (.cells (List.replicate 128 zero8 ++ [Value.int .i64 0]).toArray 142)) w.heap.size (padL []) 0 := by
  have e : cellsL (padL []) ++ [Value.int .i64 ((0 : Nat) : Int)] = List.replicate 128 zero8 ++ [Value.int .i64 0] := by
    simp [padL, cellsL, zero8]
  unfold Sec
  rw [e]
  exact RowAt.new w _ _
/-- a part of a sector as text -/
theorem conv_sec {W : World} {B : Nat} {L : List UInt8} {a : Nat} (h : Sec W B L a) (n c : Nat) (hn : n ≤ L.length) :
    (convert 68 9 (.slice (some ⟨B, 0, none⟩) n c)).run Try.prog W = .ok (.string ⟨(L.take n).toArray⟩) W := by
  have hl : (L.take n).length = n := by rw [List.length_take]; omega
  have := run_convert_bytes_back (P := Try.prog) W 68 9 5 ⟨B, 0, none⟩ c (L.take n) Try.underlying68 Try.underlying5 Try.underlying9 (fun j hj => by
    rw [hl] at hj
    rw [addr_add, Nat.zero_add, sec_cell h j (by omega), List.getElem_take])
  rw [hl] at this
  exact this
theorem below_grown {n : Nat} {w W W' : World} {B : Nat} (h : Below n w W) (hn : n ≤ W.heap.size) (hB : n ≤ B) (hg : W.grownBy W' (some B)) : Below n w W' :=
  h.grown hg hn (fun j ej => by injection ej with ej; omega)
theorem MBox.grown {W W' : World} {B e B' : Nat} {v : Value} (h : MBox W B e v) (hg : W.grownBy W' (some B')) (hne : B ≠ B') : MBox W' B e v :=
  (hg.block B (RowAt.lt h) (fun e => hne (by injection e))).trans h
theorem RowAt.grown' {W W' : World} {g B : Nat} {cs : List Value} {t : TypeId} (h : RowAt W g cs t) (hg : W.grownBy W' (some B)) (hne : g ≠ B) : RowAt W' g cs t :=
  (hg.block g h.lt (fun e => hne (by injection e))).trans h
theorem okP_all (ps : List PartT) : ∀ seen ahead, okP seen ahead ps = true → ∀ p ∈ ps, ∃ b, mayB p b = true := by
  induction ps with
  | nil => intro _ _ _ p hp; cases hp
  | cons q r ih =>
    intro seen ahead h p hp
    simp only [okP, Bool.and_eq_true] at h
    rcases List.mem_cons.1 hp with rfl | hp
    · exact ⟨_, h.1⟩
    · exact ih _ _ h.2.2.2 p hp
theorem okM_parts {m : ManT} (h : okM m = true) : (1 ≤ m.1 ∧ m.1 ≤ 4611686018427387904) ∧ m.2.length ≤ 8 ∧ ∀ p ∈ m.2, (∃ s : Nat, p.1 = (s : Int) ∧ s < 8) ∧ (1 ≤ p.2.1 ∧ p.2.1 ≤ 4611686018427387904) ∧ (∃ q : Nat, p.2.2 + 1 = (q : Int) ∧ q ≤ 1048577) := by
  simp only [okM, Bool.and_eq_true, decide_eq_true_eq] at h
  refine ⟨h.1, h.2.1, fun p hp => ?_⟩
  obtain ⟨b, hb⟩ := okP_all m.2 [] 0 h.2.2 p hp
  refine ⟨mayB_seg hb, ?_⟩
  simp only [mayB, Bool.and_eq_true, Bool.or_eq_true, decide_eq_true_eq] at hb
  exact ⟨hb.1.2, (p.2.2 + 1).toNat, by omega, by omega⟩
set_option maxRecDepth 20000 in
set_option maxHeartbeats 4000000 in
theorem mlaid_any (m : ManT) (v : Value) (w : World) (h : HasParts w v m.2) (hok : okM m = true) :
    Calls Try.prog 52 #[.agg #[.int .u64 (m.1 : Int), v]] w fun e w' => e = .returned (.string ⟨(sectL m).toArray⟩) ∧ Below w.heap.size w w' := by
  obtain ⟨⟨he1, he2⟩, hn8, hps⟩ := okM_parts hok
  have HH : Hid (headL m = headL m ∧ padL (bodyL m) = padL (headL m) ∧ (headL m).length = 116 ∧ (bodyL m).length = 9 + 13 * m.2.length) := ⟨rfl, pad_head m hn8, headL_len m hn8, bodyL_len m⟩
  have HSL : Hid (sectL m = headL m ++ (sumM m ++ eightL m.1) ∧ sumM m = Crc.textR (Crc.onL 0 (headL m))) := ⟨rfl, rfl⟩
  have HBD : Hid (bodyL m = frontL m.1 m.2.length ++ partsL m.2) := rfl
  obtain ⟨e, ps⟩ := m
  simp only at he1 he2 hn8 hps h HH HSL HBD ⊢
  generalize headL (e, ps) = HD at HH HSL
  generalize sumM (e, ps) = SM at HSL
  generalize bodyL (e, ps) = BD at HH HBD
  generalize sectL (e, ps) = SC at HSL ⊢
  obtain ⟨o, c, rfl, hn9, hcell⟩ := h.form
  obtain ⟨n, hn⟩ : ∃ n, n = ps.length := ⟨_, rfl⟩
  rw [← hn] at hn9 hn8 HH HBD ⊢
  have HN : Hid (n = ps.length) := hn
  have HC : Hid (∀ k (hk : k < ps.length), ∃ b i, o = some ⟨b, i, none⟩ ∧ b < w.heap.size ∧ w.cell? ⟨b, i + k * 3, none⟩ = some (.int .i64 ps[k].1) ∧ w.cell? ⟨b, i + k * 3 + 1, none⟩ = some (.int .u64 (ps[k].2.1 : Int)) ∧ w.cell? ⟨b, i + k * 3 + 2, none⟩ = some (.int .i64 ps[k].2.2)) := hcell
  have HF : Hid (∀ p ∈ ps, (∃ s : Nat, p.1 = (s : Int) ∧ s < 8) ∧ (1 ≤ p.2.1 ∧ p.2.1 ≤ 4611686018427387904) ∧ (∃ q : Nat, p.2.2 + 1 = (q : Int) ∧ q ≤ 1048577)) := hps
  clear hn hcell hps h hok
  obtain ⟨X, hX⟩ : ∃ X, X = (w.alloc (.cells #[.int .u64 (e : Int), .slice o n c] 57)).alloc (.cells (List.replicate 128 zero8 ++ [Value.int .i64 0]).toArray 142) := ⟨_, rfl⟩
  have hB0 : Below w.heap.size w X := by rw [hX]; exact ((Below.refl _ w).alloc (Nat.le_refl _) _).alloc (by simp) _
  have mb : MBox X w.heap.size e (.slice o n c) := by rw [hX]; exact RowAt.alloc (RowAt.new w [_, _] _) _
  have sc : Sec X (w.heap.size + 1) (padL []) 0 := by
    have := sec_new (w.alloc (.cells #[.int .u64 (e : Int), .slice o n c] 57))
    rw [World.size_alloc, ← hX] at this
    exact this
  have hzs := zeroSec
  obtain ⟨Zs, hZs⟩ : ∃ Zs, Zs = List.replicate 128 zero8 ++ [Value.int .i64 0] := ⟨_, rfl⟩
  rw [← hZs] at hzs hX
  clear hZs
  obtain ⟨m0, m1⟩ := mb.cells
  have ei : IntKind.u64.wrap (n : Int) = (n : Int) := by rw [IntKind.wrap_u64]; omega
  go_enter Try.func52, Try.ntmps52
  go_wp2_with fail
  rw [← hX]
  go_at_call 85; refine (sput_any (w.heap.size + 1) e 8 0 (padL []) X sc (padL_len (by simp)) (by omega) (by omega) (by omega)).mono ?_; rintro e2 w1 ⟨rfl, sc1, hg1⟩
  have sc1' : Sec w1 (w.heap.size + 1) (padL (eightL e)) 8 := by
    have := pad_put (D := []) (b := beL e 8) (by simp [beL_len])
    rw [List.length_nil, List.nil_append, beL_8] at this
    rw [beL_8, this] at sc1
    exact sc1
  have hB1 := below_grown hB0 hB0.size (by omega) hg1
  have mb1 := mb.grown hg1 (by omega)
  clear hX sc sc1 hg1 m0 m1 mb hB0 hzs
  obtain ⟨m0, m1⟩ := mb1.cells
  go_wp2_with fail
  go_at_call 85; refine (sput_any (w.heap.size + 1) n 1 8 (padL (eightL e)) w1 sc1' (padL_len (by rw [eightL_len]; omega)) (by omega) (by omega) (by omega)).mono ?_; rintro e2 w2 ⟨rfl, sc2, hg2⟩
  have sc2' : Sec w2 (w.heap.size + 1) (padL (frontL e n ++ partsL (ps.take 0))) 9 := by
    have := pad_put (D := eightL e) (b := beL n 1) (by rw [eightL_len, beL_len]; omega)
    rw [eightL_len, beL_1] at this
    rw [beL_1, this] at sc2
    rw [List.take_zero, show partsL [] = [] from rfl, List.append_nil]
    exact sc2
  have hB2 := below_grown hB1 hB1.size (by omega) hg2
  have mb2 := mb1.grown hg2 (by omega)
  clear sc1' sc2 hg2 m0 m1 mb1 hB1
  obtain ⟨m0, m1⟩ := mb2.cells
  go_wp2_with fail
  go_loopw [17] (fun i wr => ∃ k : Nat, k ≤ n ∧ i = .int .i64 k ∧ Sec wr (w.heap.size + 1) (padL (frontL e n ++ partsL (ps.take k))) (9 + 13 * k) ∧ MBox wr w.heap.size e (.slice o n c) ∧ Below w.heap.size w wr) (fun i _ => n - (intOf i).toNat)
  case atStart => exact ⟨0, by omega, rfl, sc2', mb2, hB2⟩
  case round =>
    obtain ⟨k, hk, rfl, sr, mbr, hB⟩ := hrel
    clear m0 m1
    obtain ⟨m0, m1⟩ := mbr.cells
    by_cases hlt : k < n
    · have hkz : k < ps.length := by rw [← HN.out]; exact hlt
      obtain ⟨b, i, rfl, hb, c0, c1, c2⟩ := HC.out k hkz
      have r0 := (hB.cell (p := ⟨b, i + k * 3, none⟩) hb).trans c0
      have r1 := (hB.cell (p := ⟨b, i + k * 3 + 1, none⟩) hb).trans c1
      have r2 := (hB.cell (p := ⟨b, i + k * 3 + 2, none⟩) hb).trans c2
      have hT : ps.take (k + 1) = ps.take k ++ [ps[k]] := List.take_succ_eq_append_getElem hkz
      have hfp := HF.out ps[k] (List.getElem_mem hkz)
      generalize ps[k] = p at r0 r1 r2 hT hfp
      obtain ⟨⟨s, hs, hs8⟩, ⟨ht1, ht2⟩, q, hq, hq2⟩ := hfp
      have hplen : (partsL (ps.take k)).length = 13 * k := by rw [partsL_len, List.length_take]; omega
      have HT : Hid (partsL (ps.take (k + 1)) = partsL (ps.take k) ++ (UInt8.ofNat s :: (eightL p.2.1 ++ Crc.textR q))) := by
        show _ = _
        rw [hT, partsL_snoc, partL, hs, hq]
        simp
      obtain ⟨sg, tg, mn⟩ := p
      simp only at r0 r1 r2 hs ht1 ht2 hq HT
      subst hs
      have hmn : mn = (q : Int) - 1 := by omega
      subst hmn
      obtain ⟨D, hD⟩ : ∃ D, D = frontL e n ++ partsL (ps.take k) := ⟨_, rfl⟩
      have hDl : D.length = 9 + 13 * k := by rw [hD, List.length_append, hplen]; rfl
      rw [← hD] at sr
      have HD2 : Hid (frontL e n ++ partsL (ps.take (k + 1)) = ((D ++ [UInt8.ofNat s]) ++ eightL tg) ++ Crc.textR q) := by
        show _ = _
        rw [HT.out, hD]; simp
      obtain ⟨Wa, hWa⟩ : ∃ Wa, Wa = wr.alloc (.cells #[.int .i64 (s : Int), .int .u64 (tg : Int), .int .i64 ((q : Int) - 1)] 54) := ⟨_, rfl⟩
      have hba : Below wr.heap.size wr Wa := by rw [hWa]; exact (Below.refl _ _).alloc (Nat.le_refl _) _
      have pa : RowAt Wa wr.heap.size [.int .i64 (s : Int), .int .u64 (tg : Int), .int .i64 ((q : Int) - 1)] 54 := by rw [hWa]; exact RowAt.new wr _ _
      have mba : MBox Wa w.heap.size e (.slice (some ⟨b, i, none⟩) n c) := RowAt.below mbr hba
      have sra : Sec Wa (w.heap.size + 1) (padL D) (9 + 13 * k) := RowAt.below sr hba
      have hBa := below2 hB hba
      have hne : wr.heap.size ≠ w.heap.size + 1 := by have := RowAt.lt sr; omega
      have pa0 := pa.cell 0
      simp only [List.getElem?_cons_zero] at pa0
      have es : IntKind.u64.wrap (s : Int) = (s : Int) := by rw [IntKind.wrap_u64]; omega
      have eq0 : IntKind.i64.wrap ((q : Int) - 1 + 1) = (q : Int) := by rw [IntKind.wrap_i64]; omega
      have eq1 : (q : Int) - 1 + 1 = (q : Int) := by omega
      have eq : IntKind.u64.wrap (q : Int) = (q : Int) := by rw [IntKind.wrap_u64]; omega
      clear hT hD hplen c0 c1 c2 HT sr
      go_upto_region 7 with fail
      rw [← hWa]
      clear hWa m0 m1 r0 r1 r2 mbr
      go_wp2_with fail
      go_at_call 85; refine (sput_any (w.heap.size + 1) s 1 (9 + 13 * k) (padL D) Wa sra (padL_len (by omega)) (by omega) (by omega) (by omega)).mono ?_; rintro e2 w3 ⟨rfl, sc3, hg3⟩
      have sc3' : Sec w3 (w.heap.size + 1) (padL (D ++ [UInt8.ofNat s])) (9 + 13 * k + 1) := by
        have := pad_put (D := D) (b := beL s 1) (by rw [hDl, beL_len]; omega)
        rw [hDl, beL_1] at this
        rw [beL_1, this] at sc3
        exact sc3
      have hB3 := below_grown hBa hBa.size (by omega) hg3
      have mb3 := mba.grown hg3 (by omega)
      have pb := RowAt.grown' pa hg3 hne
      have pb1 := pb.cell 1
      simp only [List.getElem?_cons_zero, List.getElem?_cons_succ] at pb1
      clear sra sc3 hg3 mba pa pa0 hBa hba
      go_wp2_with fail
      go_at_call 85; refine (sput_any (w.heap.size + 1) tg 8 (9 + 13 * k + 1) (padL (D ++ [UInt8.ofNat s])) w3 sc3' (padL_len (by simp; omega)) (by omega) (by omega) (by omega)).mono ?_; rintro e2 w4 ⟨rfl, sc4, hg4⟩
      have sc4' : Sec w4 (w.heap.size + 1) (padL ((D ++ [UInt8.ofNat s]) ++ eightL tg)) (9 + 13 * k + 9) := by
        have := pad_put (D := D ++ [UInt8.ofNat s]) (b := beL tg 8) (by rw [beL_len]; simp; omega)
        rw [show (D ++ [UInt8.ofNat s]).length = 9 + 13 * k + 1 by simp [hDl], beL_8] at this
        rw [beL_8, this] at sc4
        exact sc4
      have hB4 := below_grown hB3 hB3.size (by omega) hg4
      have mb4 := mb3.grown hg4 (by omega)
      have pc := RowAt.grown' pb hg4 hne
      have pc2 := pc.cell 2
      simp only [List.getElem?_cons_zero, List.getElem?_cons_succ] at pc2
      clear sc3' sc4 hg4 mb3 pb pb1 hB3
      go_wp2_with fail
      go_at_call 85; refine (sput_any (w.heap.size + 1) q 4 (9 + 13 * k + 9) (padL ((D ++ [UInt8.ofNat s]) ++ eightL tg)) w4 sc4' (padL_len (by rw [List.length_append, List.length_append, hDl, eightL_len, List.length_singleton]; omega)) (by omega) (by omega) (by omega)).mono ?_; rintro e2 w5 ⟨rfl, sc5, hg5⟩
      have sc5' : Sec w5 (w.heap.size + 1) (padL (frontL e n ++ partsL (ps.take (k + 1)))) (9 + 13 * (k + 1)) := by
        have := pad_put (D := (D ++ [UInt8.ofNat s]) ++ eightL tg) (b := beL q 4) (by rw [beL_len, List.length_append, List.length_append, hDl, eightL_len, List.length_singleton]; omega)
        rw [show ((D ++ [UInt8.ofNat s]) ++ eightL tg).length = 9 + 13 * k + 9 by simp [hDl, eightL_len], beL_4] at this
        rw [beL_4, this, ← HD2.out] at sc5
        rw [show 9 + 13 * (k + 1) = 9 + 13 * k + 9 + 4 by omega]
        exact sc5
      have hB5 := below_grown hB4 hB4.size (by omega) hg5
      have mb5 := mb4.grown hg5 (by omega)
      clear sc4' sc5 hg5 mb4 pc pc2 hB4
      go_wp2
      go_roundw
      case rel => exact ⟨k + 1, by omega, by go_num, sc5', mb5, hB5⟩
      case measure => simp [intOf]; omega
    · obtain rfl : k = n := by omega
      have sr2 : Sec wr (w.heap.size + 1) (padL HD) (9 + 13 * k) := by
        rw [List.take_of_length_le (by rw [HN.out]; exact Nat.le_refl _), ← HBD.out, HH.out.2.1] at sr
        exact sr
      have hHl := HH.out.2.2.1
      have f1 := RowAt.frozen sr2 128
      have q1 := sec_at sr2 (padL_len (by omega))
      obtain ⟨V, hV⟩ : ∃ V, V = wr.setCell ⟨w.heap.size + 1, 128, none⟩ (.int .i64 116) := ⟨_, rfl⟩
      have sv : Sec V (w.heap.size + 1) (padL HD) 116 := by rw [hV]; exact sec_move sr2 (padL_len (by omega)) 116
      have hgv : wr.grownBy V (some (w.heap.size + 1)) := by rw [hV]; exact grown_cell _ _ _ _
      have hBv := below_grown hB hB.size (by omega) hgv
      have mbv := mbr.grown hgv (by omega)
      have hcv := conv_sec sv 116 128 (by rw [padL_len (by omega)]; omega)
      rw [take_pad hHl] at hcv
      have HHL : Hid (HD.length = 116) := hHl
      have cof := fun w => Crc.of_any ⟨HD.toArray⟩ w (by rw [size_list, HHL.out]; decide)
      rw [show (⟨HD.toArray⟩ : ByteArray).data.toList = HD by simp] at cof
      obtain ⟨sm, hsm⟩ : ∃ sm, sm = Crc.onL 0 HD := ⟨_, rfl⟩
      have hsml : sm < 4294967296 := by rw [hsm]; exact Crc.onL_lt 0 HD (by decide)
      rw [← hsm] at cof
      have HSM : Hid (SM = Crc.textR sm) := by show _ = _; rw [HSL.out.2, hsm]
      have esm : IntKind.u64.wrap (sm : Int) = (sm : Int) := by rw [IntKind.wrap_u64]; omega
      have hsi : (sm : Int) ≤ 4294967295 := by omega
      have HSV : Hid (Sec V (w.heap.size + 1) (padL HD) 116) := sv
      have HSMl : Hid (sm < 4294967296) := hsml
      generalize (⟨HD.toArray⟩ : ByteArray) = HB at hcv cof
      have hslc : ∀ W : World, (Instr.sliceAt 136 (.pointer (some ⟨w.heap.size + 1, 0, none⟩)) none (some (.int .i64 116)) none).run Try.prog W = .ok (.slice (some ⟨w.heap.size + 1, 0, none⟩) 116 128) W := fun W => by
        have hal : Try.prog.arrayLen 136 = 128 := by simp [Program.arrayLen, Try.underlying136]
        rw [run_sliceAt_array_h W 136 ⟨w.heap.size + 1, 0, none⟩ (by simp [Program.arrayLen, Program.elem, Try.underlying136]) .i64 116 (by omega) (by rw [hal]; omega)]
        go_simp
      clear sr sr2 hsm hHl sv hgv mbr hB hsml
      go_upto_region 12 with fail
      rw [← hV]
      clear hV f1 q1 m0 m1
      go_wp2_with fail
      go_at_call 39; refine (cof _).mono ?_; rintro e2 w3 ⟨rfl, rfl⟩
      go_wp2_with fail
      go_at_call 85; refine (sput_any (w.heap.size + 1) sm 4 116 (padL HD) _ HSV.out (padL_len (by rw [HHL.out]; omega)) (by omega) (by omega) (by have := HSMl.out; omega)).mono ?_; rintro e2 w4 ⟨rfl, sc4, hg4⟩
      have sc4' : Sec w4 (w.heap.size + 1) (padL (HD ++ SM)) 120 := by
        have := pad_put (D := HD) (b := beL sm 4) (by rw [beL_len, HHL.out]; omega)
        rw [HHL.out, beL_4, ← HSM.out] at this
        rw [beL_4, ← HSM.out, this] at sc4
        exact sc4
      have hB4 := below_grown hBv hBv.size (by omega) hg4
      have mb4 := mbv.grown hg4 (by omega)
      obtain ⟨m0, m1⟩ := mb4.cells
      clear sc4 hg4 mbv hBv hcv cof hslc HSV
      go_wp2_with fail
      go_at_call 85; refine (sput_any (w.heap.size + 1) e 8 120 (padL (HD ++ SM)) w4 sc4' (padL_len (by rw [List.length_append, HHL.out, HSM.out]; show 116 + 4 ≤ 128; decide)) (by omega) (by omega) (by omega)).mono ?_; rintro e2 w5 ⟨rfl, sc5, hg5⟩
      have hlen : (HD ++ SM).length = 120 := by rw [List.length_append, HHL.out, HSM.out]; rfl
      have hSC : SC = (HD ++ SM) ++ eightL e := by rw [HSL.out.1, List.append_assoc]
      have hSCl : SC.length = 128 := by rw [hSC, List.length_append, hlen, eightL_len]
      have sc5' : Sec w5 (w.heap.size + 1) SC 128 := by
        have := pad_put (D := HD ++ SM) (b := beL e 8) (by rw [beL_len, hlen]; omega)
        rw [hlen, beL_8, ← hSC, pad_full hSCl] at this
        rw [beL_8, this] at sc5
        exact sc5
      have hB5 := below_grown hB4 hB4.size (by omega) hg5
      have hcv := conv_sec sc5' 128 128 (by omega)
      rw [List.take_of_length_le (by omega)] at hcv
      clear sc5 sc4' hg5 mb4 hB4 m0 m1 hlen hSC hSCl sc5'
      go_wp2
      go_ret
      exact ⟨rfl, hB5⟩
end Go.Proofs.Ytajcmgccclemdab.Man
