/- For every number of sectors, sector, text, writes and crash: spoorlaw03.DiskKept returns true, and changes nothing that was there. No condition. -/
import Derived.Test.YtakcfmgaaopkmaaRows
import Derived.Test.YtakcfmgaaopkmaaDiskLives
import Derived.Test.YtakcfmgaaopkmaaMathKept
import Derived.Test.YtakcfmgaaopkmaaDiskOpen
import Derived.ProofKit
import Derived.OpenShut
import Derived.ShutString
import Derived.SizedLaws
set_option linter.unusedVariables false
namespace Go.Proofs.Ytakcfmgaaopkmaa
namespace diskKept
open Go.ChangeShapes Go.WideShapes Go.ChangeAt Go.RowKit
open Go.ChangeMaps (open_string shut_string)
open Go.Proofs.Ytakcfmgaaopkmaa.Disk

theorem own : ownKnob Try.prog.godebug = none := by kernel_rfl
theorem laidOut : laidOutB Try.prog = true := by kernel_rfl

theorem fits_any {d : Dk} (h : Fits d) (r : Dk × Int) (hr : Ok d → Fits r.1) : Fits (outD d r).1 := by
  unfold outD
  split
  · rename_i hk; exact hr (ok_of hk)
  · exact ⟨⟨by decide, by decide⟩, by intro z hz; exact absurd hz (by show z ∉ []; simp), by intro z hz; exact absurd hz (by show z ∉ []; simp)⟩
theorem fits_make (n : Int) : Fits (makeD n).1 := by
  by_cases h : 1 ≤ n ∧ n ≤ 1024
  · exact fits_ok (ok_make h).1 (by rw [(ok_make h).2.2.2.1]; omega)
  · unfold makeD; rw [if_neg h]
    exact ⟨⟨by decide, by decide⟩, by intro z hz; exact absurd hz (by show z ∉ []; simp), by intro z hz; exact absurd hz (by show z ∉ []; simp)⟩
theorem fits_write {d : Dk} (h : Fits d) (a : Int) (data : List UInt8) : Fits (outD d (writeD d a data)).1 := fits_any h _ (fun hk => fits_ok (write_ok hk a data) (write_fuse h.1.2 a data))
theorem fits_flush {d : Dk} (h : Fits d) : Fits (outD d (flushD d)).1 := fits_any h _ (fun hk => fits_ok (flush_ok hk) (flush_fuse h.1.2))
theorem fits_crash {d : Dk} (h : Fits d) (keep : List Bool) (torn bytes : Int) : Fits (outD d (crashD d keep torn bytes)).1 := fits_any h _ (fun hk => fits_ok (crash_ok hk keep torn bytes) (by show (-1 : Int) ≤ _; omega))

set_option maxHeartbeats 4000000 in
set_option maxRecDepth 20000 in
theorem walk (a0 a1 : Int) (a2 : ByteArray) (v3 : Value) (z3 : List PutT) (v4 : Value) (z4 : List Bool) (a5 a6 : Int) (w : World) (b0 : -9223372036854775808 ≤ a0 ∧ a0 ≤ 9223372036854775807) (b1 : -9223372036854775808 ≤ a1 ∧ a1 ≤ 9223372036854775807) (b2 : a2.size ≤ 140737488351232)
    (b3 : HasPuts w v3 z3 ∧ ∀ p ∈ z3, (-9223372036854775808 ≤ p.1 ∧ p.1 ≤ 9223372036854775807) ∧ p.2.length ≤ 9223372036854775807) (b4 : HasRow w v4 1 z4.length (z4.map Value.bool)) (b5 : -9223372036854775808 ≤ a5 ∧ a5 ≤ 9223372036854775807) (b6 : -9223372036854775808 ≤ a6 ∧ a6 ≤ 9223372036854775807) :
    Calls Try.prog 5 #[.int .i64 a0, .int .i64 a1, .string a2, v3, v4, .int .i64 a5, .int .i64 a6] w fun e w' => e = .returned (.bool true) ∧ Below w.heap.size w w' := by
  obtain ⟨data, rfl, hdl⟩ := str_list a2
  have hv : ∀ w, Calls Try.prog 16 #[] w fun e w' => e = .returned (.bool true) ∧ Below w.heap.size w w' := lives_any
  have c1 := fun w' => (make_fn a0 w' b0).mono (fun e w' h => back_of h)
  have hf1 := fits_make a0
  have hkb := kept_begin (n := a0) (at' := a1) (data := data)
  generalize makeD a0 = r1 at c1 hf1 hkb
  obtain ⟨d1, y1⟩ := r1
  simp only at c1 hf1 hkb
  have c2 := fun w' v (h : HasDk w' v d1) => (write_fn d1 v a1 data w' h hf1 b1 (by omega)).mono (fun e w' h => back_of h)
  have hf2 := fits_write hf1 a1 data
  generalize outD d1 (writeD d1 a1 data) = r2 at c2 hf2 hkb
  obtain ⟨d2, y2⟩ := r2
  simp only at c2 hf2 hkb
  have c3 := fun w' v (h : HasDk w' v d2) => (flush_fn d2 v w' h hf2).mono (fun e w' h => back_of h)
  have hf3 := fits_flush hf2
  generalize outD d2 (flushD d2) = r3 at c3 hf3 hkb
  obtain ⟨d3, y3⟩ := r3
  simp only at c3 hf3 hkb
  obtain ⟨lo, lc, rfl, hl1, hl2⟩ := HasRow.slice b3.1
  obtain ⟨ko, kc, rfl, hk1, hk2⟩ := HasRow.slice b4
  unfold Back at c1 c2 c3
  unfold strV at c2
  obtain ⟨n, hn⟩ : ∃ n, n = z3.length := ⟨_, rfl⟩
  have HN : Hid (n = z3.length) := hn
  have HL : Hid (∀ wr, Below w.heap.size w wr → HasPuts wr (.slice lo n lc) z3) := fun wr hb => by rw [hn]; exact b3.1.keep hb
  have HP : Hid (∀ p ∈ z3, (-9223372036854775808 ≤ p.1 ∧ p.1 ≤ 9223372036854775807) ∧ p.2.length ≤ 9223372036854775807) := b3.2
  have HK : Hid (∀ wr, Below w.heap.size w wr → HasRow wr (.slice ko z4.length kc) 1 z4.length (z4.map Value.bool)) := fun wr hb => b4.keep' hb
  rw [← hn] at hl1 ⊢
  have hn9 : n ≤ 9223372036854775807 := by omega
  have HV : Hid (strV data = .string ⟨data.toArray⟩) := rfl
  have HKB : Hid (y1 = 0 → y2 = 0 → y3 = 0 ∧ ∃ S, Kept S a1 d3 ∧ inB S.length a1 = true ∧ S.getD a1.toNat [] = data) := fun h1 h2 => hkb h1 h2
  clear hkb b3 b4 hn hdl
  generalize hD : (⟨data.toArray⟩ : ByteArray) = D at c2 HV ⊢
  have HD : Hid (D = ⟨data.toArray⟩) := hD.symm
  clear hD
  go_enter Try.func5, Try.ntmps5
  go_wp2_with fail
  go_at_call 16; refine (hv _).mono ?_; rintro e w1 ⟨rfl, hW1⟩
  go_wp2_with fail
  go_at_call 24; refine (c1 _).mono ?_; rintro e w2 ⟨so, sc, co, cc, rfl, hs, hc, hb2⟩
  have hW2 := below2 hW1 hb2
  have v1 := VDk.new hs hc
  have hb1' := hW2.alloc hW2.size (.cells #[.slice so d1.secs.length sc, .slice co d1.cache.length cc, .int .i64 d1.fuse, .bool d1.off] 25)
  go_upto_region 4 with fail
  obtain ⟨X1, hX1⟩ : ∃ X1, X1 = w2.alloc (.cells #[.slice so d1.secs.length sc, .slice co d1.cache.length cc, .int .i64 d1.fuse, .bool d1.off] 25) := ⟨_, rfl⟩
  rw [← hX1] at v1 hb1' ⊢
  obtain ⟨b, hbb⟩ : ∃ b, b = w2.heap.size := ⟨_, rfl⟩
  have hwb : w.heap.size ≤ b := by rw [hbb]; exact hW2.size
  rw [← hbb] at v1 ⊢
  clear hX1 hbb hs hc hb2 hW2
  have V1 : Hid (VDk X1 b d1) := v1
  obtain ⟨so, sc, co, cc, vb, hs, hc⟩ := v1
  obtain ⟨q0, q1, q2, q3, qf⟩ := vb.cells
  go_wp2_with fail
  go_at_call 10; refine (c2 _ _ ⟨_, _, rfl, hs, hc⟩).mono ?_; rintro e w3 ⟨so3, sc3, co3, cc3, rfl, hs3, hc3, hb3⟩
  have v2 := VDk.store (V1.out.below hb3) hs3 hc3
  have hb2' := set4_below (below2 hb1' hb3) hwb (.slice so3 d2.secs.length sc3) (.slice co3 d2.cache.length cc3) (.int .i64 d2.fuse) (.bool d2.off)
  obtain ⟨p0, p1, p2, p3, pf⟩ := (vb.below hb3).cells
  go_upto_region 5 with fail
  obtain ⟨X2, hX2⟩ : ∃ X2, X2 = ((((w3.setCell ⟨b, 0, none⟩ (.slice so3 d2.secs.length sc3)).setCell ⟨b, 1, none⟩ (.slice co3 d2.cache.length cc3)).setCell ⟨b, 2, none⟩ (.int .i64 d2.fuse)).setCell ⟨b, 3, none⟩ (.bool d2.off)) := ⟨_, rfl⟩
  rw [← hX2] at v2 hb2' ⊢
  clear hX2 hs hc hs3 hc3 hb3 V1 vb q0 q1 q2 q3 qf p0 p1 p2 p3 pf hb1'
  have V2 : Hid (VDk X2 b d2) := v2
  obtain ⟨so, sc, co, cc, vb, hs, hc⟩ := v2
  obtain ⟨q0, q1, q2, q3, qf⟩ := vb.cells
  go_wp2_with fail
  go_at_call 12; refine (c3 _ _ ⟨_, _, rfl, hs, hc⟩).mono ?_; rintro e w4 ⟨so3, sc3, co3, cc3, rfl, hs3, hc3, hb3⟩
  have v3 := VDk.store (V2.out.below hb3) hs3 hc3
  have hb3' := set4_below (below2 hb2' hb3) hwb (.slice so3 d3.secs.length sc3) (.slice co3 d3.cache.length cc3) (.int .i64 d3.fuse) (.bool d3.off)
  obtain ⟨p0, p1, p2, p3, pf⟩ := (vb.below hb3).cells
  go_upto_region 6 with fail
  obtain ⟨X3, hX3⟩ : ∃ X3, X3 = ((((w4.setCell ⟨b, 0, none⟩ (.slice so3 d3.secs.length sc3)).setCell ⟨b, 1, none⟩ (.slice co3 d3.cache.length cc3)).setCell ⟨b, 2, none⟩ (.int .i64 d3.fuse)).setCell ⟨b, 3, none⟩ (.bool d3.off)) := ⟨_, rfl⟩
  rw [← hX3] at v3 hb3' ⊢
  clear hX3 hs hc hs3 hc3 hb3 V2 vb q0 q1 q2 q3 qf p0 p1 p2 p3 pf hb2'
  by_cases hy1 : y1 = 0
  · by_cases hy2 : y2 = 0
    · obtain ⟨hy3, S, hK3, hinS, hgS⟩ := HKB.out hy1 hy2
      subst hy1; subst hy2; subst hy3
      clear HKB c1 c2 c3
      go_wp2_with fail
      go_loopw [51] (fun i wr => ∃ (k : Nat) (d' : Dk), k ≤ n ∧ i = .int .i64 k ∧ Kept S a1 d' ∧ VDk wr b d' ∧ Below w.heap.size w wr) (fun i _ => n - (intOf i).toNat)
      case atStart => exact ⟨0, d3, by omega, rfl, hK3, v3, hb3'⟩
      case round =>
        obtain ⟨k, d', hk, rfl, hKd, vd, hB⟩ := hrel
        by_cases hlt : k < n
        · have hkz : k < z3.length := by rw [← HN.out]; exact hlt
          obtain ⟨g1, i1, rfl, hg1, e1, e2⟩ := HasPuts.cell (HL.out _ hB) k hkz
          have hpb := HP.out z3[k] (List.getElem_mem hkz)
          generalize z3[k] = p at e1 e2 hpb
          obtain ⟨pa, pd⟩ := p
          simp only at e1 e2 hpb
          have cw := fun w' v (h : HasDk w' v d') => (write_fn d' v pa pd w' h (fits_ok hKd.ok (by rw [hKd.fuse]; omega)) hpb.1 hpb.2).mono (fun e w' h => back_of h)
          have hKw := hKd.write pa pd
          unfold strV at e2 cw
          generalize (⟨pd.toArray⟩ : ByteArray) = PD at e2 cw
          have hal := hB.alloc hB.size (.cells #[.int .i64 pa, .string PD] 44)
          have vda : VDk (wr.alloc (.cells #[.int .i64 pa, .string PD] 44)) b d' := vd.below ((Below.refl _ _).alloc (Nat.le_refl _) _)
          by_cases hpa : pa = a1
          · have hx : (pa != a1) = false := by simpa using hpa
            clear cw hKw hpa
            go_wp2_with fail
            go_roundw
            case rel => exact ⟨k + 1, d', by omega, by go_num, hKd, vda, hal⟩
            case measure => simp [intOf]; omega
          · have hx : (pa != a1) = true := by simpa using hpa
            by_cases h50 : k < 50
            · have hx2 : decide ((k : Int) < 50) = true := by simp; omega
              have hKw2 := hKw hpa
              generalize outD d' (writeD d' pa pd) = r at cw hKw2
              obtain ⟨dw, yw⟩ := r
              simp only at cw hKw2
              unfold Back at cw
              have x0 : (wr.alloc (.cells #[.int .i64 pa, .string PD] 44)).cell? ⟨wr.heap.size, 0, none⟩ = some (.int .i64 pa) := by
                simp only [World.cell?, heap_alloc_new]; exact if_neg (by simp)
              have x1 : (wr.alloc (.cells #[.int .i64 pa, .string PD] 44)).cell? ⟨wr.heap.size, 1, none⟩ = some (.string PD) := by
                simp only [World.cell?, heap_alloc_new]; exact if_neg (by simp)
              clear hKw hpa
              go_upto_region 11 with fail
              obtain ⟨X4, hX4⟩ : ∃ X4, X4 = wr.alloc (.cells #[.int .i64 pa, .string PD] 44) := ⟨_, rfl⟩
              rw [← hX4] at x0 x1 vda hal ⊢
              clear hX4
              have VA : Hid (VDk X4 b d') := vda
              obtain ⟨so, sc, co, cc, vb, hs, hc⟩ := vda
              obtain ⟨q0, q1, q2, q3, qf⟩ := vb.cells
              go_wp2_with fail
              go_at_call 10; refine (cw _ _ ⟨_, _, rfl, hs, hc⟩).mono ?_; rintro e w5 ⟨so3, sc3, co3, cc3, rfl, hs3, hc3, hb3⟩
              have v5 := VDk.store (VA.out.below hb3) hs3 hc3
              have hb5' := set4_below (below2 hal hb3) hwb (.slice so3 dw.secs.length sc3) (.slice co3 dw.cache.length cc3) (.int .i64 dw.fuse) (.bool dw.off)
              obtain ⟨p0, p1, p2, p3, pf⟩ := (vb.below hb3).cells
              go_wp2_with fail
              go_roundw
              case rel => exact ⟨k + 1, dw, by omega, by go_num, hKw2, v5, hb5'⟩
              case measure => simp [intOf]; omega
            · have hx2 : decide ((k : Int) < 50) = false := by simp; omega
              clear cw hKw hpa
              go_wp2_with fail
              go_roundw
              case rel => exact ⟨k + 1, d', by omega, by go_num, hKd, vda, hal⟩
              case measure => simp [intOf]; omega
        · obtain rfl : k = n := by omega
          have hcr := hKd.crash hinS z4 a5 a6
          have hfd := fits_ok hKd.ok (by rw [hKd.fuse]; omega)
          have c4 := fun w' v (h : HasDk w' v d') hk => (crash_fn d' v (.slice ko z4.length kc) z4 a5 a6 w' h hfd hk b5 b6).mono (fun e w' h => back_of h)
          have hfc := fits_crash hfd z4 a5 a6
          generalize outD d' (crashD d' z4 a5 a6) = r at c4 hcr hfc
          obtain ⟨dc, yc⟩ := r
          simp only at c4 hcr hfc
          obtain ⟨hyc, hrd⟩ := hcr
          subst hyc
          have c5 := fun w' v (h : HasDk w' v dc) => read_fn dc v a1 w' h hfc b1
          rw [hrd, hgS] at c5
          unfold TextIs at c5
          simp only [HV.out] at c5
          unfold Back at c4
          have VA : Hid (VDk wr b d') := vd
          obtain ⟨so, sc, co, cc, vb, hs, hc⟩ := vd
          obtain ⟨q0, q1, q2, q3, qf⟩ := vb.cells
          have hkr := HK.out _ hB
          clear hrd hgS hinS
          have hxd : (D.toList == D.toList) = true := by simp
          go_wp2_with fail
          go_at_call 20; refine (c4 _ _ ⟨_, _, rfl, hs, hc⟩ hkr).mono ?_; rintro e w6 ⟨so3, sc3, co3, cc3, rfl, hs3, hc3, hb3⟩
          have v6 := VDk.store (VA.out.below hb3) hs3 hc3
          have hb6' := set4_below (below2 hB hb3) hwb (.slice so3 dc.secs.length sc3) (.slice co3 dc.cache.length cc3) (.int .i64 dc.fuse) (.bool dc.off)
          obtain ⟨p0, p1, p2, p3, pf⟩ := (vb.below hb3).cells
          go_upto_region 15 with fail
          obtain ⟨X6, hX6⟩ : ∃ X6, X6 = ((((w6.setCell ⟨b, 0, none⟩ (.slice so3 dc.secs.length sc3)).setCell ⟨b, 1, none⟩ (.slice co3 dc.cache.length cc3)).setCell ⟨b, 2, none⟩ (.int .i64 dc.fuse)).setCell ⟨b, 3, none⟩ (.bool dc.off)) := ⟨_, rfl⟩
          rw [← hX6] at v6 hb6' ⊢
          clear hX6 hs hc hs3 hc3 hb3 VA vb q0 q1 q2 q3 qf p0 p1 p2 p3 pf
          obtain ⟨so, sc, co, cc, vb, hs, hc⟩ := v6
          obtain ⟨q0, q1, q2, q3, qf⟩ := vb.cells
          go_wp2_with fail
          go_at_call 14; refine (c5 _ _ ⟨_, _, rfl, hs, hc⟩).mono ?_; rintro e w7 ⟨rfl, hb7⟩
          go_wp2
          go_ret
          exact ⟨by simp, below2 hb6' hb7⟩
    · have hx : (y2 != 0) = true := by simpa using hy2
      have hx1 : (y1 != 0) = false := by simpa using hy1
      clear hy1 hy2 HKB
      go_wp2
      go_ret
      exact ⟨rfl, hb3'⟩
  · have hx : (y1 != 0) = true := by simpa using hy1
    clear hy1 HKB
    go_wp2
    go_ret
    exact ⟨rfl, hb3'⟩

set_option maxRecDepth 100000 in
theorem lifted (os : Os) (started : os.Started) (H : Type) (enc : TypeId × Value → H) :
    ReturnsInHanded {} Try.checked os 5 .any (Rows.diskKeptSpec.pre6 enc Try.prog Try.f5 Rows.diskKeptRow.domain false) (Rows.diskKeptSpec.post enc Try.prog Try.f5 false true false false) := by
  refine returnsInHanded_of_change_sized (C := Try.checked) own started (by kernel_rfl) Try.func5
    (ChangeSpec.witness6 (enc := enc) (C := Try.checked) false ⟨#[], #[.int .i64 0, .int .i64 0, .string ByteArray.empty, .slice none 0 0, .slice none 0 0, .int .i64 0, .int .i64 0], []⟩ 8 (by kernel_rfl) (by kernel_rfl) (by kernel_rfl) (by kernel_rfl)) ?_
  intro W base args ds gs before hval0 hW _ hsz0 _
  have hsz : (DataW.weightsEach Try.prog (Try.f5.params.toList ++ Rows.diskKeptSpec.plain.varTypes Try.prog) (ds ++ gs)).all (· ≤ reachBytes) = true := hsz0
  clear hsz0
  have hval : ∀ (j : Nat) t v, Try.f5.params[j]? = some t → args[j]? = some v → Value.okWide Try.prog W .any base t v := hval0
  have hW' := hW
  obtain ⟨p, q, hA0, hV, rfl, hfz, hnd⟩ := hW
  have hA : DataW.TrodAll enc Try.prog W 0 (fun _ => true) true Try.f5.params.toList args.toList ds p := hA0
  rw [Try.params5] at hA hval hsz
  obtain ⟨v0, vs0, d0, ds0, p0, q0, hargs, rfl, rfl, h0, r0⟩ := trodAll_cons hA
  obtain ⟨v1, vs1, d1, ds1, p1, q1, rfl, rfl, rfl, h1, r1⟩ := trodAll_cons r0
  obtain ⟨v2, vs2, d2, ds2, p2, q2, rfl, rfl, rfl, h2, r2⟩ := trodAll_cons r1
  obtain ⟨v3, vs3, d3, ds3, p3, q3, rfl, rfl, rfl, h3, r3⟩ := trodAll_cons r2
  obtain ⟨v4, vs4, d4, ds4, p4, q4, rfl, rfl, rfl, h4, r4⟩ := trodAll_cons r3
  obtain ⟨v5, vs5, d5, ds5, p5, q5, rfl, rfl, rfl, h5, r5⟩ := trodAll_cons r4
  obtain ⟨v6, vs6, d6, ds6, p6, q6, rfl, rfl, rfl, h6, r6⟩ := trodAll_cons r5
  obtain ⟨rfl, rfl, rfl⟩ := trodAll_nil r6
  obtain rfl : args = #[v0, v1, v2, v3, v4, v5, v6] := by cases args; simp_all
  obtain ⟨rfl, rfl⟩ := trodVars_none hV
  obtain ⟨a0, rfl, rfl, rfl, w0⟩ := open_int Try.underlying3 (hval 0 3 v0 rfl rfl) h0
  have b0 : -9223372036854775808 ≤ a0 ∧ a0 ≤ 9223372036854775807 := by simpa [Lit.wf, IntKind.min, IntKind.max, IntKind.signed, IntKind.bits] using w0
  obtain ⟨a1, rfl, rfl, rfl, w1⟩ := open_int Try.underlying3 (hval 1 3 v1 rfl rfl) h1
  have b1 : -9223372036854775808 ≤ a1 ∧ a1 ≤ 9223372036854775807 := by simpa [Lit.wf, IntKind.min, IntKind.max, IntKind.signed, IntKind.bits] using w1
  obtain ⟨a2, rfl, rfl, rfl, w2⟩ := open_string Try.underlying9 (hval 2 9 v2 rfl rfl) h2
  have b2 : a2.size ≤ 140737488351232 := by
    have := sized_string hsz (j := 2) (t := 9) rfl rfl
    simpa [reachBytes] using this
  obtain ⟨a3, len3, cap3, rfl⟩ := okWide_slice Try.underlying23 (hval 3 23 v3 rfl rfl)
  have k3 := h3
  have lt3 : ∀ x ∈ p3, x.block < W.heap.size := by obtain ⟨m, hm⟩ := k3; exact DataW.trod_lt m _ _ _ hm
  obtain ⟨fuel3, hf3⟩ := h3
  obtain ⟨z3, b3⟩ := Disk.open_puts_row hf3
  obtain ⟨a4, len4, cap4, rfl⟩ := okWide_slice Try.underlying37 (hval 4 37 v4 rfl rfl)
  have k4 := h4
  have lt4 : ∀ x ∈ p4, x.block < W.heap.size := by obtain ⟨m, hm⟩ := k4; exact DataW.trod_lt m _ _ _ hm
  obtain ⟨fuel4, hf4⟩ := h4
  obtain ⟨z4, b4⟩ := Disk.open_bools_row hf4
  obtain ⟨a5, rfl, rfl, rfl, w5⟩ := open_int Try.underlying3 (hval 5 3 v5 rfl rfl) h5
  have b5 : -9223372036854775808 ≤ a5 ∧ a5 ≤ 9223372036854775807 := by simpa [Lit.wf, IntKind.min, IntKind.max, IntKind.signed, IntKind.bits] using w5
  obtain ⟨a6, rfl, rfl, rfl, w6⟩ := open_int Try.underlying3 (hval 6 3 v6 rfl rfl) h6
  have b6 : -9223372036854775808 ≤ a6 ∧ a6 ≤ 9223372036854775807 := by simpa [Lit.wf, IntKind.min, IntKind.max, IntKind.signed, IntKind.bits] using w6
  clear hA0 hval0
  refine (walk a0 a1 a2 (.slice a3 len3 cap3) z3 (.slice a4 len4 cap4) z4 a5 a6 W b0 b1 b2 b3 b4 b5 b6).mono fun e W' ⟨he, bel⟩ => ?_
  subst he
  exact ⟨_, rfl, _, _, _, [], _, [], hW', trodAll_mk1 (shut_bool Try.underlying4 _), (trodAll_cons_mk (shut_int Try.underlying3 w0) (trodAll_cons_mk (shut_int Try.underlying3 w1) (trodAll_cons_mk (shut_string Try.underlying9 w2) (trodAll_cons_mk (Below.trod laidOut (by kernel_rfl) (of_decide_eq_true (by kernel_rfl)) k3 bel lt3) (trodAll_cons_mk (Below.trod laidOut (by kernel_rfl) (of_decide_eq_true (by kernel_rfl)) k4 bel lt4) (trodAll_cons_mk (shut_int Try.underlying3 w5) (trodAll_cons_mk (shut_int Try.underlying3 w6) trodAll_mk0))))))), rfl, bel.frame _, fun h => by cases h⟩

theorem over : Rows.diskKeptRow.holds Try.pinned (OpenSpec.ofChange Rows.diskKeptSpec) :=
  OpenClaim.holds_of_wide 5 Try.f5 rfl rfl rfl rfl rfl rfl rfl ⟨rfl, rfl, rfl, rfl, rfl⟩ rfl rfl rfl rfl rfl (by kernel_rfl) Try.func5 (by kernel_rfl)
    (of_decide_eq_true (by kernel_rfl)) (by unfold Func.isWrapper; first | (rw [if_pos (by decide +kernel)]; kernel_rfl) | (rw [if_neg (by decide +kernel)]; exact ⟨rfl, rfl⟩))
    (fun os started H enc _ => lifted os started H enc)
end diskKept
theorem dkept_holds : Rows.DiskKeptSaid := diskKept.over
#print axioms dkept_holds
end Go.Proofs.Ytakcfmgaaopkmaa
