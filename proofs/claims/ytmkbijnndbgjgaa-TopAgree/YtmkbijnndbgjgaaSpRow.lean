/- Whether runs are a right row of the field. -/
import Derived.Test.YtmkbijnndbgjgaaSpField2
import Derived.BigQuiet
set_option linter.unusedVariables false
namespace Go.Proofs.Ytmkbijnndbgjgaa.Sp
open Go.RowKit
open Go.Proofs.Ytmkbijnndbgjgaa.Lk (HasRow)
open Go.Proofs.Ytmkbijnndbgjgaa.Addr (wideN rightB hiN loN adV cmpN nextE prevE cmp_any cmp_le RowAt below2 below_drew below_new bset RowAt.lt RowAt.cell RowAt.frozen RowAt.below RowAt.drew RowAt.new RowAt.alloc cells2 cells4 results_cell gset grefl Bl bl_ne wp_region_bl bl_call bl_same)
theorem row_end {six : Bool} {l : List Sp} {k : Nat} (h : Row six (l.take k)) (hk : k = l.length) : rowB six l = true := by
  rw [hk, List.take_length] at h; exact rowB_iff.2 h
theorem row_round {six : Bool} {l : List Sp} {k j : Nat} (hk : k < l.length) (h : Row six (l.take k)) (hs : okS six l[k] = true) (hj : k = j + 1) (hjl : j < l.length) :
    (apartB six l[j].2 l[k].1 = true → Row six (l.take (k + 1))) ∧ (apartB six l[j].2 l[k].1 = false → rowB six l = false) := by
  have hjo : okS six l[j] = true := h.1 _ (List.mem_take_iff_getElem.2 ⟨j, by omega, rfl⟩)
  have h1 := okS_iff.1 hjo
  have h2 := okS_iff.1 hs
  rw [apart_iff (by omega) (by omega)]
  subst hj
  constructor
  · intro hd
    exact row_step hk h hs (fun h0 => by have := of_decide_eq_true hd; simpa using this)
  · intro hd
    exact row_bad2 hk (of_decide_eq_false hd)
set_option maxHeartbeats 4000000 in
set_option maxRecDepth 20000 in
theorem rowF_any (six : Bool) (l : List Sp) (v : Value) (g : Nat) (w : World) (h : HasSps w v l) (hf : ∀ s ∈ l, FitS s) (hg : SixAt w g six) :
    Calls Try.prog 86 #[fdV g, v] w fun e w' => e = .returned (.bool (rowB six l)) ∧ Below w.heap.size w w' := by
  obtain ⟨o, c, rfl, hc1, hc2⟩ := HasRow.slice h
  obtain ⟨X0, hX0⟩ : ∃ X, X = w.alloc (.cells #[f0 g, f1, f2 g, f3 g] 123) := ⟨_, rfl⟩
  have hB0 : Below w.heap.size w X0 := by rw [hX0]; exact below_new (Below.refl _ _) _
  have rf : RowAt X0 w.heap.size [f0 g, f1, f2 g, f3 g] 123 := by rw [hX0]; exact RowAt.new _ _ _
  have HR : Hid (∀ wr : World, Below X0.heap.size X0 wr → HasSps wr (.slice o l.length c) l ∧ SixAt wr g six ∧ RowAt wr w.heap.size [f0 g, f1, f2 g, f3 g] 123) := fun wr hb => ⟨(h.keep hB0).keep hb, (hg.keep hB0).keep hb, rf.below hb⟩
  have HF : Hid (∀ s ∈ l, FitS s) := hf
  obtain ⟨n, hn⟩ : ∃ n, n = l.length := ⟨_, rfl⟩
  have HN : Hid (n = l.length) := hn
  rw [← hn] at HR hc1 ⊢
  have hni : (n : Int) ≤ 9223372036854775807 := by omega
  obtain ⟨R, hR⟩ : ∃ R, R = rowB six l := ⟨_, rfl⟩
  have HD : Hid (R = rowB six l) := hR
  rw [← hR]
  clear h hn hR hf hg rf
  obtain ⟨gf, hgf⟩ : ∃ q, q = w.heap.size := ⟨_, rfl⟩
  rw [← hgf] at HR
  unfold fdV
  unfold f0 f1 f2 f3 at *
  go_enter Try.func86, Try.ntmps86
  go_upto_region 1 with fail
  rw [← hX0, ← hgf]
  clear hX0 hgf
  go_wp2_with fail
  go_loopw [9] (fun i wr => ∃ k : Nat, k ≤ n ∧ i = .int .i64 k ∧ Below X0.heap.size X0 wr ∧ Hid (Row six (l.take k))) (fun i _ => n - (intOf i).toNat)
  case atStart => exact ⟨0, by omega, rfl, Below.refl _ _, by rw [List.take_zero]; exact row_nil six⟩
  case round =>
    obtain ⟨k, hk, rfl, hB, HG⟩ := hrel
    obtain ⟨hh, hg, rf⟩ := HR.out _ hB
    by_cases hlt : k < n
    · have hkz : k < l.length := by rw [← HN.out]; exact hlt
      obtain ⟨g1, i1, rfl, hg1, a0, a1, a2, a3⟩ := HasSps.cell hh k hkz
      have hfk := HF.out _ (List.getElem_mem hkz)
      have cr := fun (W : World) (hq : SixAt W g six) => rightF_any six l[k] g W hfk hq
      have hki : (k : Int) < (n : Int) := by omega
      have HB1 : Hid (okS six l[k] = false → R = false) := fun h => by rw [HD.out]; exact row_bad1 hkz h
      have HB2 : Hid (okS six l[k] = true → k = 0 → Row six (l.take (k + 1))) := fun h h0 => row_step hkz HG.out h (fun h1 => absurd h1 (by omega))
      have HB3 : Hid (okS six l[k] = true → ∀ (j : Nat) (hj : j < l.length), k = j + 1 → (apartB six l[j].2 l[k].1 = true → Row six (l.take (k + 1))) ∧ (apartB six l[j].2 l[k].1 = false → R = false)) := fun h j hj h0 => by rw [HD.out]; exact row_round hkz HG.out h h0 hj
      have ca : Hid (∀ (j : Nat) (hj : j < l.length) (W : World), SixAt W g six → Calls Try.prog 97 #[fdV g, adV l[j].2, adV l[k].1] W fun e w' => e = .returned (.bool (apartB six l[j].2 l[k].1)) ∧ Below W.heap.size W w') := fun j hj W hq => apartF_any six l[j].2 l[k].1 g W (HF.out _ (List.getElem_mem hj)).2 hfk.1 hq
      unfold fdV spV f0 f1 f2 f3 at cr
      unfold fdV adV f0 f1 f2 f3 at ca
      generalize okS six l[k] = B1 at cr HB1 HB2 HB3
      obtain ⟨sk, hsk⟩ : ∃ sk, sk = l[k] := ⟨_, rfl⟩
      rw [← hsk] at a0 a1 a2 a3 cr HB3 ca
      obtain ⟨s1, s2⟩ := sk
      clear hsk hfk HG
      simp only at a0 a1 a2 a3 cr HB3 ca
      generalize hiN s1 = ka at *
      generalize loN s1 = kb at *
      generalize hiN s2 = kc at *
      generalize loN s2 = kd at *
      go_upto_region 4 with fail
      obtain ⟨X, hX⟩ : ∃ X, X = wr.alloc (.cells #[.int .u64 (ka : Int), .int .u64 (kb : Int), .int .u64 (kc : Int), .int .u64 (kd : Int)] 130) := ⟨_, rfl⟩
      have hbX : Below wr.heap.size wr X := by rw [hX]; exact below_new (Below.refl _ _) _
      have rx : RowAt X wr.heap.size [.int .u64 (ka : Int), .int .u64 (kb : Int), .int .u64 (kc : Int), .int .u64 (kd : Int)] 130 := by rw [hX]; exact RowAt.new _ _ _
      rw [← hX]
      have hBX := below2 hB hbX
      replace hh := hh.keep hbX
      replace hg := hg.keep hbX
      replace rf := rf.below hbX
      clear hX hbX
      obtain ⟨gs, hgs⟩ : ∃ g, g = wr.heap.size := ⟨_, rfl⟩
      rw [← hgs] at rx ⊢
      clear hgs a0 a1 a2 a3 hg1
      have m0 : ∀ p : Bl X, p.W.cell? ⟨gs, 0, none⟩ = some (.int .u64 (ka : Int)) := fun p => (rx.below p.h).cell 0
      have m1 : ∀ p : Bl X, p.W.cell? ⟨gs, 1, none⟩ = some (.int .u64 (kb : Int)) := fun p => (rx.below p.h).cell 1
      have m2 : ∀ p : Bl X, p.W.cell? ⟨gs, 2, none⟩ = some (.int .u64 (kc : Int)) := fun p => (rx.below p.h).cell 2
      have m3 : ∀ p : Bl X, p.W.cell? ⟨gs, 3, none⟩ = some (.int .u64 (kd : Int)) := fun p => (rx.below p.h).cell 3
      have t0 := fun p : Bl X => (rf.below p.h).cell 0
      have t1 := fun p : Bl X => (rf.below p.h).cell 1
      have t2 := fun p : Bl X => (rf.below p.h).cell 2
      have t3 := fun p : Bl X => (rf.below p.h).cell 3
      simp only [List.getElem?_cons_succ, List.getElem?_cons_zero] at t0 t1 t2 t3
      have cr2 := fun p : Bl X => cr p.W (hg.keep p.h)
      clear cr
      haveI := bl_ne X
      cases B1
      · have HV : Hid (R = false) := HB1.out rfl
        clear HB1 HB2 HB3 HD hh
        refine wp_region_bl (by kernel_rfl) (by kernel_rfl) ?_
        repeat (go_big_quiet_step (first | (go_at_call 85; with_reducible exact bl_call (cr2 _))))
        refine wpQuiet_nil ?_
        intro wq hw'
        obtain ⟨⟨wz, hq⟩, hw2⟩ := hw'
        subst hw2
        have hW := below2 hB0 (below2 hBX hq)
        go_wp2_with fail
        go_ret
        exact ⟨by rw [HV.out]; rfl, hW⟩
      · by_cases hk0 : k = 0
        · have HS1 : Hid (Row six (l.take (k + 1))) := HB2.out rfl hk0
          clear HB1 HB2 HB3 hh
          have hz1 : decide ((0 : Int) < (k : Int)) = false := decide_eq_false (by omega)
          have hz2 : decide (0 < k) = false := decide_eq_false (by omega)
          have HK : Hid (k = 0) := hk0
          clear hk0
          refine wp_region_bl (by kernel_rfl) (by kernel_rfl) ?_
          repeat (go_big_quiet_step (first | (go_at_call 85; with_reducible exact bl_call (cr2 _))))
          refine wpQuiet_nil ?_
          intro wq hw'
          obtain ⟨⟨wz, hq⟩, hw2⟩ := hw'
          subst hw2
          have hW := below2 hBX hq
          go_wp2_with fail
          go_roundw
          case rel => exact ⟨k + 1, by omega, by go_num, hW, HS1⟩
          case measure => simp [intOf]; omega
        · obtain ⟨j, hj⟩ : ∃ j, k = j + 1 := ⟨k - 1, by omega⟩
          have hj2 : j < l.length := by omega
          obtain ⟨g2, i2, e12, hg2, _, _, b2, b3⟩ := HasSps.cell hh j hj2
          injection e12 with e12
          injection e12 with e1 e2
          subst e1 e2
          obtain ⟨HN1, HN2⟩ := HB3.out rfl j hj2 hj
          have HN1 : Hid (apartB six l[j].2 s1 = true → Row six (l.take (k + 1))) := HN1
          have HN2 : Hid (apartB six l[j].2 s1 = false → R = false) := HN2
          have ca2 := fun p : Bl X => ca.out j hj2 p.W (hg.keep p.h)
          have u2 : ∀ p : Bl X, p.W.cell? ⟨g1, i1 + j * 4 + 2, none⟩ = some (.int .u64 (hiN l[j].2 : Int)) := fun p => (p.h.cell (p := ⟨g1, i1 + j * 4 + 2, none⟩) hg2).trans b2
          have u3 : ∀ p : Bl X, p.W.cell? ⟨g1, i1 + j * 4 + 3, none⟩ = some (.int .u64 (loN l[j].2 : Int)) := fun p => (p.h.cell (p := ⟨g1, i1 + j * 4 + 3, none⟩) hg2).trans b3
          clear HB1 HB2 HB3 hh b2 b3 hg2 ca
          generalize apartB six l[j].2 s1 = C at *
          generalize hiN l[j].2 = ja at *
          generalize loN l[j].2 = jb at *
          have e1 : (k : Int) - 1 = (j : Int) := by omega
          have e2 : IntKind.i64.wrap (j : Int) = (j : Int) := by rw [IntKind.wrap_i64]; omega
          have hkp : decide ((0 : Int) < (k : Int)) = true := decide_eq_true (by omega)
          have hkp2 : decide (0 < k) = true := decide_eq_true (by omega)
          have hjn : (j : Int) < (n : Int) := by omega
          cases C
          · have HV : Hid (R = false) := HN2.out rfl
            clear HN1 HN2 HD
            refine wp_region_bl (by kernel_rfl) (by kernel_rfl) ?_
            repeat (go_big_quiet_step (first | (go_at_call 85; with_reducible exact bl_call (cr2 _)) | (go_at_call 97; with_reducible exact bl_call (ca2 _))))
            refine wpQuiet_nil ?_
            intro wq hw'
            obtain ⟨⟨wz, hq⟩, hw2⟩ := hw'
            subst hw2
            have hW := below2 hB0 (below2 hBX hq)
            go_wp2_with fail
            go_ret
            exact ⟨by first | rfl | (rw [HV.out]; rfl), hW⟩
          · have HS1 : Hid (Row six (l.take (k + 1))) := HN1.out rfl
            clear HN1 HN2
            refine wp_region_bl (by kernel_rfl) (by kernel_rfl) ?_
            repeat (go_big_quiet_step (first | (go_at_call 85; with_reducible exact bl_call (cr2 _)) | (go_at_call 97; with_reducible exact bl_call (ca2 _))))
            refine wpQuiet_nil ?_
            intro wq hw'
            obtain ⟨⟨wz, hq⟩, hw2⟩ := hw'
            subst hw2
            have hW := below2 hBX hq
            clear e1 e2 hj
            go_wp2_with fail
            go_roundw
            case rel => exact ⟨k + 1, by omega, by go_num, hW, HS1⟩
            case measure => simp [intOf]; omega
    · have HV : Hid (R = true) := by show _ = _; rw [HD.out]; exact row_end HG.out (by have := HN.out; omega)
      have hkf : decide ((k : Int) < (n : Int)) = false := decide_eq_false (by omega)
      have hW := below2 hB0 hB
      clear HG HD
      go_wp2_with fail
      go_ret
      exact ⟨by rw [HV.out]; rfl, hW⟩
end Go.Proofs.Ytmkbijnndbgjgaa.Sp
