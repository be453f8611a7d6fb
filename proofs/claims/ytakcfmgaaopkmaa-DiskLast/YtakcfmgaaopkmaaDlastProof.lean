/- For every disk, every number and every text: spoorlaw03.DiskLast returns true, and changes nothing that was there. No condition. -/
import Derived.Test.YtakcfmgaaopkmaaRows
import Derived.Test.YtakcfmgaaopkmaaDiskLives
import Derived.Test.YtakcfmgaaopkmaaDiskMath
import Derived.Test.YtakcfmgaaopkmaaDiskOpen
import Derived.ProofKit
import Derived.OpenShut
import Derived.ShutString
import Derived.SizedLaws
set_option linter.unusedVariables false
namespace Go.Proofs.Ytakcfmgaaopkmaa
namespace diskLast
open Go.ChangeShapes Go.WideShapes Go.ChangeAt Go.RowKit
open Go.ChangeMaps (open_string shut_string)
open Go.Proofs.Ytakcfmgaaopkmaa.Disk

theorem own : ownKnob Try.prog.godebug = none := by kernel_rfl
theorem laidOut : laidOutB Try.prog = true := by kernel_rfl

/-- the row of texts comes back -/
def Texts (zs : List (List UInt8)) (w : World) (e : Ending) (w' : World) : Prop := ∃ o c, e = .returned (.tuple #[.slice o zs.length c, .int .i64 0]) ∧ HasStrs w' (.slice o zs.length c) zs ∧ Below w.heap.size w w'
theorem held_back {d : Dk} {v : Value} {w : World} (h : HasDk w v d) (hok : Ok d) (hf : Fits d) : Calls Try.prog 22 #[v] w (Texts (allH d) w) := by
  refine (held_fn d v w h hf).mono ?_
  rw [held_ok hok]
  rintro e w' ⟨u, rfl, hs, hb⟩
  obtain ⟨o, c, rfl, _, _⟩ := HasRow.slice hs
  exact ⟨o, c, rfl, hs, hb⟩
theorem str_ne (a b : List UInt8) : (((⟨a.toArray⟩ : ByteArray).toList == (⟨b.toArray⟩ : ByteArray).toList)) = (a == b) := by
  rw [Bool.eq_iff_iff]; simp [ByteArray.toList_eq]

/-- which of the four ways a write went -/
def Way (y : Int) (off : Bool) (n m : Nat) (app : Bool) : Prop :=
  (app = true ∧ (y == 0) = true) ∨ (app = true ∧ (y == 0) = false ∧ (y == 9) = true ∧ off = false ∧ n = 128 ∧ m < 4096) ∨ (app = false ∧ (y == 0) = false ∧ (y == 9) = true ∧ off = true) ∨ (app = false ∧ (y == 0) = false ∧ (y == 9) = false)
theorem ways {d : Dk} (hok : Ok d) (at' : Int) (data : List UInt8) : ∃ app : Bool, Way (writeD d at' data).2 d.off data.length d.cache.length app ∧ ∀ k (hk : k < (allH d).length), (allH (writeD d at' data).1)[k]? = some (if app = true ∧ (k : Int) = at' then data else (allH d)[k]) := by
  rcases write_cases d at' data with ⟨e, h⟩ | ⟨h1, h2, h3, h4, e⟩
  · refine ⟨false, ?_, fun k hk => by rw [e, List.getElem?_eq_getElem hk]; simp⟩
    rcases h with ⟨h, ho⟩ | ⟨ho, h | h | h⟩
    · exact .inr (.inr (.inl ⟨rfl, by rw [h]; rfl, by rw [h]; rfl, ho⟩))
    all_goals exact .inr (.inr (.inr ⟨rfl, by rw [h]; rfl, by rw [h]; rfl⟩))
  · refine ⟨true, ?_, fun k hk => ?_⟩
    · rw [e]
      simp only
      unfold spendE
      split
      · exact .inr (.inl ⟨rfl, rfl, rfl, h1, h3, h4⟩)
      · exact .inl ⟨rfl, rfl⟩
    · rw [e]
      simp only
      rw [allH_put hok h2 h3]
      have hin : 0 ≤ at' ∧ at' < (d.secs.length : Int) := by simpa [inB] using h2
      rw [List.getElem?_set]
      by_cases hka : (k : Int) = at'
      · rw [if_pos (by omega), if_pos (by rw [allH_len]; omega)]; simp [hka]
      · rw [if_neg (by omega), List.getElem?_eq_getElem hk]; simp [hka]
set_option maxHeartbeats 4000000 in
set_option maxRecDepth 20000 in
theorem walk (v0 : Value) (D0 : Dk) (a1 : Int) (a2 : ByteArray) (w : World) (b0 : HasDk w v0 D0) (f0 : Fits D0) (b1 : -9223372036854775808 ≤ a1 ∧ a1 ≤ 9223372036854775807) (b2 : a2.size ≤ 140737488351232) :
    Calls Try.prog 7 #[v0, .int .i64 a1, .string a2] w fun e w' => e = .returned (.bool true) ∧ Below w.heap.size w w' := by
  obtain ⟨data, rfl, hdl⟩ := str_list a2
  have hv : ∀ w, Calls Try.prog 16 #[] w fun e w' => e = .returned (.bool true) ∧ Below w.heap.size w w' := lives_any
  obtain ⟨so, sc, co, cc, rfl, hs, hc⟩ := b0.parts
  have cw := fun w' (hb : Below w.heap.size w w') => (write_fn D0 _ a1 data w' (b0.keep hb) f0 b1 (by omega)).mono (fun e w' h => back_of h)
  obtain ⟨W0, hW0⟩ : ∃ W0, W0 = w.alloc (.cells #[.slice so D0.secs.length sc, .slice co D0.cache.length cc, .int .i64 D0.fuse, .bool D0.off] 25) := ⟨_, rfl⟩
  have vb0 : VBox W0 w.heap.size (.slice so D0.secs.length sc) (.slice co D0.cache.length cc) (.int .i64 D0.fuse) (.bool D0.off) := by rw [hW0]; exact heap_alloc_new _ _
  have hB0 : Below w.heap.size w W0 := by rw [hW0]; exact (Below.refl _ w).alloc (Nat.le_refl _) _
  by_cases hok : okB D0 = true
  · have hOK := ok_of hok
    obtain ⟨app, hway, hget⟩ := ways hOK a1 data
    rw [outD_ok hOK] at cw
    have hEok := write_ok hOK a1 data
    have hEfu := write_fuse f0.1.2 a1 data
    generalize hE : writeD D0 a1 data = r at cw hway hget hEok hEfu
    obtain ⟨E, y⟩ := r
    simp only at cw hway hget hEok hEfu
    have hlen : (allH E).length = (allH D0).length := by
      rw [allH_len, allH_len]
      rcases write_cases D0 a1 data with ⟨e, _⟩ | ⟨_, _, _, _, e⟩
      · rw [hE] at e; simp only at e; rw [e]
      · rw [hE] at e; injection e with e _; rw [e]
    have hEf := fits_ok hEok hEfu
    have hFok := flush_ok hEok
    have hFf := fits_ok hFok (flush_fuse hEfu)
    have hFH := allH_flush E
    have hFc := flush_cases E
    have ch := fun w' (hb : Below w.heap.size w w') => held_back (b0.keep hb) hOK f0
    have che := fun w' v (h : HasDk w' v E) => held_back h hEok hEf
    have cck := fun w' v (h : HasDk w' v E) => check_any E v w' h hEf
    rw [checkE_ok (ok_mk hEok)] at cck
    have cfl := fun w' v (h : HasDk w' v E) => (flush_fn E v w' h hEf).mono (fun e w' h => back_of h)
    rw [outD_ok hEok] at cfl
    generalize flushD E = r2 at cfl hFok hFf hFH hFc
    obtain ⟨F, y3⟩ := r2
    simp only at cfl hFok hFf hFH hFc
    have chf := fun w' v (h : HasDk w' v F) => held_back h hFok hFf
    rw [hFH] at chf
    have hFc2 : (y3 == 0) = false ∨ F.cache.length = 0 := by
      rcases hFc with ⟨h, _⟩ | ⟨_, h⟩
      · left; rw [h]; rfl
      · right; rw [h]; rfl
    have hnl : (allH D0).length ≤ 1024 := by rw [allH_len]; exact hOK.many
    unfold Texts at ch che chf
    unfold Back at cw cfl
    unfold strV at cw
    rw [hlen] at che chf
    have hDs : (⟨data.toArray⟩ : ByteArray).size = data.length := size_list data
    have hmd : D0.cache.length ≤ 4096 := hOK.few
    generalize allH D0 = HB at *
    generalize allH E = HE at *
    obtain ⟨n, hn⟩ : ∃ n, n = HB.length := ⟨_, rfl⟩
    have HN : Hid (n = HB.length) := hn
    have HNE : Hid (HE.length = HB.length) := hlen
    rw [← hn] at ch che chf hnl
    have HG : Hid (∀ k (hk : k < HB.length), HE[k]? = some (if app = true ∧ (k : Int) = a1 then data else HB[k])) := hget
    obtain ⟨m0, hm0⟩ : ∃ m, m = D0.cache.length := ⟨_, rfl⟩
    have HDL : Hid ((⟨data.toArray⟩ : ByteArray).size = data.length) := hDs
    have hdn : data.length ≤ 9223372036854775807 := by omega
    clear hE hget hlen hEok hEfu hEf hFok hFf hFH hFc hOK hok f0 hs hc b0 hn hm0 hDs
    have hway2 : (app = true ∧ (y == 0) = true) ∨ (app = true ∧ (y == 0) = false ∧ (y == 9) = true ∧ D0.off = false ∧ (((⟨data.toArray⟩ : ByteArray).size : Int) == 128) = true ∧ decide ((D0.cache.length : Int) < 4096) = true) ∨ (app = false ∧ (y == 0) = false ∧ (y == 9) = true ∧ D0.off = true) ∨ (app = false ∧ (y == 0) = false ∧ (y == 9) = false) := by
      rcases hway with h | ⟨h1, h2, h3, h4, h5, h6⟩ | h | h
      · exact .inl h
      · exact .inr (.inl ⟨h1, h2, h3, h4, by rw [HDL.out, h5]; rfl, by simp; omega⟩)
      · exact .inr (.inr (.inl h))
      · exact .inr (.inr (.inr h))
    clear hway
    have hsD : (⟨data.toArray⟩ : ByteArray).size ≤ 9223372036854775807 := by rw [HDL.out]; exact hdn
    have HA : Hid (∀ k (hk : k < HB.length), (app = true ∧ (k : Int) = a1 → HE[k]? = some data) ∧ (¬ (app = true ∧ (k : Int) = a1) → HE[k]? = some HB[k])) := fun k hk => ⟨fun h => by rw [HG.out k hk, if_pos h], fun h => by rw [HG.out k hk, if_neg h]⟩
    have HV : Hid (strV data = .string ⟨data.toArray⟩) := rfl
    generalize (⟨data.toArray⟩ : ByteArray) = D at *
    clear HG
    go_enter Try.func7, Try.ntmps7
    go_wp2_with fail
    rw [← hW0]
    go_at_call 16; refine (hv _).mono ?_; rintro e w1 ⟨rfl, hb⟩
    have hW := below2 hB0 hb
    have vb1 := vb0.below hb
    obtain ⟨q0, q1, q2, q3, qf⟩ := vb1.cells
    clear hW0
    go_wp2_with fail
    go_at_call 22; refine (ch _ hW).mono ?_; rintro e w2 ⟨bo, bc, rfl, hbs, hb2⟩
    have vb2 := vb1.below hb2
    obtain ⟨r0, r1, r2, r3, rf⟩ := vb2.cells
    have hW2 := below2 hW hb2
    go_wp2_with fail
    go_at_call 10; refine (cw _ hW2).mono ?_; rintro e w3 ⟨so3, sc3, co3, cc3, rfl, hs3, hc3, hb3⟩
    obtain ⟨W3, hW3⟩ : ∃ W3, W3 = w3.alloc (.cells #[.slice so3 E.secs.length sc3, .slice co3 E.cache.length cc3, .int .i64 E.fuse, .bool E.off] 25) := ⟨_, rfl⟩
    have hbn : Below w3.heap.size w3 W3 := by rw [hW3]; exact (Below.refl _ _).alloc (Nat.le_refl _) _
    have vbe : VBox W3 w3.heap.size (.slice so3 E.secs.length sc3) (.slice co3 E.cache.length cc3) (.int .i64 E.fuse) (.bool E.off) := by rw [hW3]; exact heap_alloc_new _ _
    have hdk3 : HasDk W3 (.agg #[.slice so3 E.secs.length sc3, .slice co3 E.cache.length cc3, .int .i64 E.fuse, .bool E.off]) E := ⟨_, _, rfl, hs3.keep hbn, hc3.keep hbn⟩
    have hb23 : Below w2.heap.size w2 W3 := below2 hb3 hbn
    have hW3' := below2 hW2 hb23
    have vb3 := vb2.below hb23
    have hbs3 := hbs.keep hb23
    go_upto_region 5 with fail
    rw [← hW3]
    obtain ⟨t0, t1, t2, t3, tf⟩ := vbe.cells
    clear hW3 q0 q1 q2 q3 qf r0 r1 r2 r3 rf hbs hs3 hc3
    go_wp2_with fail
    go_at_call 22; refine (che _ _ hdk3).mono ?_; rintro e w4 ⟨ao, ac, rfl, has, hb4⟩
    have vbe4 := vbe.below hb4
    obtain ⟨x0, x1, x2, x3, xf⟩ := vbe4.cells
    go_wp2_with fail
    go_at_call 18; refine (cck _ _ (hdk3.keep hb4)).mono ?_; rintro e w5 ⟨rfl, hb5⟩
    have hb35 := below2 hb4 hb5
    have hW5 := below2 hW3' hb35
    have vb5 := vb3.below hb35
    have vbe5 := vbe4.below hb5
    obtain ⟨u0, u1, u2, u3, uf⟩ := vb5.cells
    have hbs5 := hbs3.keep hb35
    have has5 := has.keep hb5
    have hdk5 := hdk3.keep hb35
    clear t0 t1 t2 t3 tf x0 x1 x2 x3 xf
    go_wp2_with fail
    go_loop [59] (fun i => ∃ k : Nat, k ≤ n ∧ i = .int .i64 k) (fun i => n - (intOf i).toNat)
    case atStart => exact ⟨0, by omega, rfl⟩
    case round =>
      obtain ⟨k, hk, rfl⟩ := hrel
      by_cases hlt : k < n
      · have hkb : k < HB.length := by rw [← HN.out]; exact hlt
        have hke : k < HE.length := by rw [HNE.out]; exact hkb
        obtain ⟨g1, i1, rfl, _, c1⟩ := HasStrs.cell hbs5 k hkb
        obtain ⟨g2, i2, rfl, _, c2⟩ := HasStrs.cell has5 k hke
        have hA := HA.out k hkb
        rw [List.getElem?_eq_getElem hke] at hA
        by_cases hka : app = true ∧ (k : Int) = a1
        · obtain ⟨happ, hka⟩ := hka
          have e1 := Option.some.inj (hA.1 ⟨happ, hka⟩)
          rw [e1, HV.out] at c2
          have hx1 : ((k : Int) == a1) = true := by simpa using hka
          unfold strV at c1
          generalize (⟨(HB[k]).toArray⟩ : ByteArray) = ZB at c1
          clear hA e1 hka
          rcases hway2 with ⟨_, hy0⟩ | ⟨_, hy0, hy9, hof, hd8, hm4⟩ | ⟨h, _⟩ | ⟨h, _⟩
          · clear happ
            go_wp2_with fail
            go_round
            case rel => exact ⟨k + 1, by omega, by go_num⟩
            case measure => simp [intOf]; omega
          · have u3' := u3
            rw [hof] at u3'
            clear hof u3 happ
            go_wp2_with fail
            go_round
            case rel => exact ⟨k + 1, by omega, by go_num⟩
            case measure => simp [intOf]; omega
          · rw [happ] at h; cases h
          · rw [happ] at h; cases h
        · have e1 := Option.some.inj (hA.2 hka)
          rw [e1] at c2
          unfold strV at c1 c2
          generalize (⟨(HB[k]).toArray⟩ : ByteArray) = ZB at c1 c2
          clear hA e1
          by_cases hx : (k : Int) = a1
          · have hx1 : ((k : Int) == a1) = true := by simpa using hx
            have happ : app = false := by cases app; rfl; exact absurd ⟨rfl, hx⟩ hka
            clear hka hx
            rcases hway2 with ⟨h, _⟩ | ⟨h, _⟩ | ⟨_, hy0, hy9, hof⟩ | ⟨_, hy0, hy9⟩
            · rw [happ] at h; cases h
            · rw [happ] at h; cases h
            · have u3' := u3
              rw [hof] at u3'
              clear hof u3 happ
              go_wp2_with fail
              go_round
              case rel => exact ⟨k + 1, by omega, by go_num⟩
              case measure => simp [intOf]; omega
            · clear happ
              go_wp2_with fail
              go_round
              case rel => exact ⟨k + 1, by omega, by go_num⟩
              case measure => simp [intOf]; omega
          · have hx1 : ((k : Int) == a1) = false := by simpa using hx
            clear hka hx hway2
            go_wp2_with fail
            go_round
            case rel => exact ⟨k + 1, by omega, by go_num⟩
            case measure => simp [intOf]; omega
      · obtain rfl : k = n := by omega
        clear hway2 HA
        obtain ⟨t0, t1, t2, t3, tf⟩ := vbe5.cells
        go_wp2_with fail
        go_at_call 12; refine (cfl _ _ hdk5).mono ?_; rintro e w6 ⟨so6, sc6, co6, cc6, rfl, hs6, hc6, hb6⟩
        obtain ⟨W6, hW6⟩ : ∃ W6, W6 = w6.alloc (.cells #[.slice so6 F.secs.length sc6, .slice co6 F.cache.length cc6, .int .i64 F.fuse, .bool F.off] 25) := ⟨_, rfl⟩
        have hbn6 : Below w6.heap.size w6 W6 := by rw [hW6]; exact (Below.refl _ _).alloc (Nat.le_refl _) _
        have vbf : VBox W6 w6.heap.size (.slice so6 F.secs.length sc6) (.slice co6 F.cache.length cc6) (.int .i64 F.fuse) (.bool F.off) := by rw [hW6]; exact heap_alloc_new _ _
        have hdk6 : HasDk W6 (.agg #[.slice so6 F.secs.length sc6, .slice co6 F.cache.length cc6, .int .i64 F.fuse, .bool F.off]) F := ⟨_, _, rfl, hs6.keep hbn6, hc6.keep hbn6⟩
        have hb56 := below2 hb6 hbn6
        have hW6' := below2 hW5 hb56
        have has6 := has5.keep hb56
        go_upto_region 20 with fail
        rw [← hW6]
        obtain ⟨x0, x1, x2, x3, xf⟩ := vbf.cells
        clear hW6 hs6 hc6 t0 t1 t2 t3 tf
        go_wp2_with fail
        go_at_call 22; refine (chf _ _ hdk6).mono ?_; rintro e w7 ⟨fo, fc, rfl, hfs, hb7⟩
        have hW7 := below2 hW6' hb7
        have has7 := has6.keep hb7
        obtain ⟨z0, z1, z2, z3, zf⟩ := (vbf.below hb7).cells
        have hcz : ∃ r : Bool, (y3 == 0) = r ∧ (r = true → F.cache.length = 0) := by
          cases hy : (y3 == 0) with
          | false => exact ⟨false, rfl, fun h => by cases h⟩
          | true =>
            refine ⟨true, rfl, fun _ => ?_⟩
            rcases hFc2 with h | h
            · rw [hy] at h; cases h
            · exact h
        obtain ⟨r, hr, hrc⟩ := hcz
        clear x0 x1 x2 x3 xf
        have hfin : ∀ wr, Below w7.heap.size w7 wr → HasStrs wr (.slice fo k fc) HE ∧ HasStrs wr (.slice ao k ac) HE := fun wr hb => ⟨hfs.keep hb, has7.keep hb⟩
        cases r with
        | false =>
          clear hrc
          go_wp2_with fail
          go_loopw [132] (fun i wr => ∃ j : Nat, j ≤ k ∧ i = .int .i64 j ∧ Below w7.heap.size w7 wr) (fun i _ => k - (intOf i).toNat)
          case atStart => exact ⟨0, by omega, rfl, Below.refl _ _⟩
          case round =>
            obtain ⟨j, hj, rfl, hB⟩ := hrel
            by_cases hlt : j < k
            · have hke : j < HE.length := by rw [HNE.out, ← HN.out]; exact hlt
              obtain ⟨g1, i1, rfl, _, c1⟩ := HasStrs.cell (hfin _ hB).1 j hke
              obtain ⟨g2, i2, rfl, _, c2⟩ := HasStrs.cell (hfin _ hB).2 j hke
              unfold strV at c1 c2
              generalize (⟨(HE[j]).toArray⟩ : ByteArray) = Z at c1 c2
              go_wp2_with fail
              go_quiet (fail)
              go_wp2
              go_roundw
              case rel => exact ⟨j + 1, by omega, by go_num, by first | exact hB | exact hB.drew | exact below_drewN hB _⟩
              case measure => simp [intOf]; omega
            · go_wp2
              go_ret
              exact ⟨rfl, hW7.trans (hB.mono hW7.size)⟩
        | true =>
          have hF0 := hrc rfl
          rw [hF0] at z1
          clear hrc hF0
          go_wp2_with fail
          go_loopw [132] (fun i wr => ∃ j : Nat, j ≤ k ∧ i = .int .i64 j ∧ Below w7.heap.size w7 wr) (fun i _ => k - (intOf i).toNat)
          case atStart => exact ⟨0, by omega, rfl, Below.refl _ _⟩
          case round =>
            obtain ⟨j, hj, rfl, hB⟩ := hrel
            by_cases hlt : j < k
            · have hke : j < HE.length := by rw [HNE.out, ← HN.out]; exact hlt
              obtain ⟨g1, i1, rfl, _, c1⟩ := HasStrs.cell (hfin _ hB).1 j hke
              obtain ⟨g2, i2, rfl, _, c2⟩ := HasStrs.cell (hfin _ hB).2 j hke
              unfold strV at c1 c2
              generalize (⟨(HE[j]).toArray⟩ : ByteArray) = Z at c1 c2
              go_wp2_with fail
              go_quiet (fail)
              go_wp2
              go_roundw
              case rel => exact ⟨j + 1, by omega, by go_num, by first | exact hB | exact hB.drew | exact below_drewN hB _⟩
              case measure => simp [intOf]; omega
            · go_wp2
              go_ret
              exact ⟨rfl, hW7.trans (hB.mono hW7.size)⟩
  · have hok' : okB D0 = false := by simpa using hok
    have ch := fun w' (hb : Below w.heap.size w w') => held_fn D0 _ w' (b0.keep hb) f0
    rw [show heldD D0 = ([], 2) from by unfold heldD; rw [hok']; rfl] at ch
    rw [show outD D0 (writeD D0 a1 data) = (zeroD, 2) from by unfold outD; rw [hok']; rfl] at cw
    unfold StrsIs at ch
    unfold Back at cw
    unfold strV at cw
    generalize (⟨data.toArray⟩ : ByteArray) = D at *
    clear hok hok' hs hc b0 f0
    go_enter Try.func7, Try.ntmps7
    go_wp2_with fail
    rw [← hW0]
    go_at_call 16; refine (hv _).mono ?_; rintro e w1 ⟨rfl, hb⟩
    have hW := below2 hB0 hb
    obtain ⟨q0, q1, q2, q3, qf⟩ := (vb0.below hb).cells
    clear hW0
    go_wp2_with fail
    go_at_call 22; refine (ch _ hW).mono ?_; rintro e w2 ⟨u, rfl, hu, hb2⟩
    obtain ⟨r0, r1, r2, r3, rf⟩ := ((vb0.below hb).below hb2).cells
    have hW2 := below2 hW hb2
    obtain ⟨uo, uc, rfl, _, _⟩ := HasRow.slice hu
    go_wp2_with fail
    go_at_call 10; refine (cw _ hW2).mono ?_; rintro e w3 ⟨so3, sc3, co3, cc3, rfl, hs3, hc3, hb3⟩
    go_wp2
    go_ret
    exact ⟨rfl, (below2 hW2 hb3).alloc (below2 hW2 hb3).size _⟩

set_option maxRecDepth 100000 in
theorem lifted (os : Os) (started : os.Started) (H : Type) (enc : TypeId × Value → H) :
    ReturnsInHanded {} Try.checked os 7 .any (Rows.diskLastSpec.pre6 enc Try.prog Try.f7 Rows.diskLastRow.domain false) (Rows.diskLastSpec.post enc Try.prog Try.f7 false true false false) := by
  refine returnsInHanded_of_change_sized (C := Try.checked) own started (by kernel_rfl) Try.func7
    (ChangeSpec.witness6 (enc := enc) (C := Try.checked) false ⟨#[], #[.agg #[.slice none 0 0, .slice none 0 0, .int .i64 0, .bool false], .int .i64 0, .string ByteArray.empty], []⟩ 8 (by kernel_rfl) (by kernel_rfl) (by kernel_rfl) (by kernel_rfl)) ?_
  intro W base args ds gs before hval0 hW _ hsz0 _
  have hsz : (DataW.weightsEach Try.prog (Try.f7.params.toList ++ Rows.diskLastSpec.plain.varTypes Try.prog) (ds ++ gs)).all (· ≤ reachBytes) = true := hsz0
  clear hsz0
  have hval : ∀ (j : Nat) t v, Try.f7.params[j]? = some t → args[j]? = some v → Value.okWide Try.prog W .any base t v := hval0
  have hW' := hW
  obtain ⟨p, q, hA0, hV, rfl, hfz, hnd⟩ := hW
  have hA : DataW.TrodAll enc Try.prog W 0 (fun _ => true) true Try.f7.params.toList args.toList ds p := hA0
  rw [Try.params7] at hA hval hsz
  obtain ⟨v0, vs0, d0, ds0, p0, q0, hargs, rfl, rfl, h0, r0⟩ := trodAll_cons hA
  obtain ⟨v1, vs1, d1, ds1, p1, q1, rfl, rfl, rfl, h1, r1⟩ := trodAll_cons r0
  obtain ⟨v2, vs2, d2, ds2, p2, q2, rfl, rfl, rfl, h2, r2⟩ := trodAll_cons r1
  obtain ⟨rfl, rfl, rfl⟩ := trodAll_nil r2
  obtain rfl : args = #[v0, v1, v2] := by cases args; simp_all
  obtain ⟨rfl, rfl⟩ := trodVars_none hV
  have k0 := h0
  have lt0 : ∀ x ∈ p0, x.block < W.heap.size := by obtain ⟨m, hm⟩ := k0; exact DataW.trod_lt m _ _ _ hm
  obtain ⟨D0, b0, f0⟩ := Disk.open_disk (hval 0 25 v0 rfl rfl) h0
  obtain ⟨a1, rfl, rfl, rfl, w1⟩ := open_int Try.underlying3 (hval 1 3 v1 rfl rfl) h1
  have b1 : -9223372036854775808 ≤ a1 ∧ a1 ≤ 9223372036854775807 := by simpa [Lit.wf, IntKind.min, IntKind.max, IntKind.signed, IntKind.bits] using w1
  obtain ⟨a2, rfl, rfl, rfl, w2⟩ := open_string Try.underlying9 (hval 2 9 v2 rfl rfl) h2
  have b2 : a2.size ≤ 140737488351232 := by
    have := sized_string hsz (j := 2) (t := 9) rfl rfl
    simpa [reachBytes] using this
  clear hA0 hval0
  refine (walk v0 D0 a1 a2 W b0 f0 b1 b2).mono fun e W' ⟨he, bel⟩ => ?_
  subst he
  exact ⟨_, rfl, _, _, _, [], _, [], hW', trodAll_mk1 (shut_bool Try.underlying4 _), (trodAll_cons_mk (Below.trod laidOut (by kernel_rfl) (of_decide_eq_true (by kernel_rfl)) k0 bel lt0) (trodAll_cons_mk (shut_int Try.underlying3 w1) (trodAll_cons_mk (shut_string Try.underlying9 w2) trodAll_mk0))), rfl, bel.frame _, fun h => by cases h⟩

theorem over : Rows.diskLastRow.holds Try.pinned (OpenSpec.ofChange Rows.diskLastSpec) :=
  OpenClaim.holds_of_wide 7 Try.f7 rfl rfl rfl rfl rfl rfl rfl ⟨rfl, rfl, rfl, rfl, rfl⟩ rfl rfl rfl rfl rfl (by kernel_rfl) Try.func7 (by kernel_rfl)
    (of_decide_eq_true (by kernel_rfl)) (by unfold Func.isWrapper; first | (rw [if_pos (by decide +kernel)]; kernel_rfl) | (rw [if_neg (by decide +kernel)]; exact ⟨rfl, rfl⟩))
    (fun os started H enc _ => lifted os started H enc)
end diskLast
theorem dlast_holds : Rows.DiskLastSaid := diskLast.over
#print axioms dlast_holds
end Go.Proofs.Ytakcfmgaaopkmaa
