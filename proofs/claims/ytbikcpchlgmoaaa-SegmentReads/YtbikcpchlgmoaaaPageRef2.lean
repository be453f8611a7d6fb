/- What the document's Tag and Get return, for every text. -/
import Derived.Test.YtbikcpchlgmoaaaPageRefPut
set_option linter.unusedVariables false
namespace Go.Proofs.Ytbikcpchlgmoaaa.Page
open Go.RowKit

set_option maxHeartbeats 2000000 in
theorem rtag_core (s : ByteArray) (w : World) (hs : s.size ≤ 9223372036854775807) :
    Calls Try.prog 109 #[.string s] w (NumIs (tagL s.data.toList) w) := by
  have hdl : s.data.toList.length = s.size := by simp
  by_cases h : s.size = 128
  · have x1 : s.extract 0 8 = ⟨(s.data.toList.take 8).toArray⟩ := extract_take s 8
    have x2 : s.extract 120 128 = ⟨(s.data.toList.drop 120).toArray⟩ := by have := extract_drop s 120; rw [h] at this; exact this
    have c1 := fun w => rnumber_any (s.data.toList.take 8) w (by rw [List.length_take]; omega)
    have hlt := numL_lt (s.data.toList.take 8) (by rw [List.length_take]; omega)
    rw [← x1] at c1
    obtain ⟨R, hR⟩ : ∃ R, R = numL 0 (s.data.toList.take 8) := ⟨_, rfl⟩
    have hRi : (R : Int) ≤ 18446744073709551615 := by omega
    have HR : Hid (R = numL 0 (s.data.toList.take 8)) := hR
    rw [← hR] at c1
    by_cases he : s.data.toList.take 8 = s.data.toList.drop 120
    · have hee : (s.extract 0 8).toList = (s.extract 120 128).toList := by rw [x1, x2, he]
      by_cases hR0 : R = 0
      · have HF : Hid (tagL s.data.toList = (0, 3)) := tagL_none (by omega) (fun hc => hc.2 (by rw [← hR]; exact hR0))
        subst hR0
        clear x1 x2 he hdl hR hlt
        unfold NumIs
        go_enter Try.func109, Try.ntmps109
        go_wp2_with fail
        go_at_call 115; refine (c1 _).mono ?_; rintro e w1 ⟨rfl, rfl⟩
        go_wp2_with fail
        go_quiet (fail)
        go_wp2
        go_ret2
        exact ⟨by rw [HF.out]; rfl, below_drewN (Below.refl _ _) _⟩
      · have HF : Hid (tagL s.data.toList = (R, 0)) := by
          have := tagL_ok (s := s.data.toList) (by omega) he (by rw [← hR]; exact hR0)
          rw [← hR] at this; exact this
        have hRne : ((R : Int) == 0) = false := by rw [beq_eq_false_iff_ne]; omega
        have hRne2 : ¬ ((R : Int) = 0) := by omega
        clear x1 x2 he hdl hR hlt
        unfold NumIs
        go_enter Try.func109, Try.ntmps109
        go_wp2_with fail
        go_at_call 115; refine (c1 _).mono ?_; rintro e w1 ⟨rfl, rfl⟩
        go_wp2_with fail
        go_quiet (fail)
        go_wp2
        go_ret2
        exact ⟨by rw [HF.out]; rfl, below_drewN (Below.refl _ _) _⟩
    · have HF : Hid (tagL s.data.toList = (0, 3)) := tagL_none (by omega) (fun hc => he hc.1)
      have hne : ((s.extract 0 8).toList == (s.extract 120 128).toList) = false := ne_of (fun hc => he (by rw [x1, x2] at hc; exact arr_inj hc))
      clear x1 x2 he hdl hR hlt
      unfold NumIs
      go_enter Try.func109, Try.ntmps109
      go_wp2_with fail
      go_at_call 115; refine (c1 _).mono ?_; rintro e w1 ⟨rfl, rfl⟩
      go_wp2_with fail
      go_quiet (fail)
      go_wp2
      go_ret2
      exact ⟨by rw [HF.out]; rfl, below_drewN (Below.refl _ _) _⟩
  · rw [tagL_long (by omega)]
    unfold NumIs
    have hne : ¬ ((s.size : Int) = 128) := by omega
    clear hdl
    go_enter Try.func109, Try.ntmps109
    go_wp2
    go_ret2
    exact ⟨rfl, Below.refl _ _⟩
set_option maxRecDepth 20000 in
set_option maxHeartbeats 2000000 in
theorem rget_core (s : ByteArray) (t : Nat) (w : World) (hs : s.size ≤ 9223372036854775807) (ht : t < 18446744073709551616) :
    Calls Try.prog 97 #[.string s, .int .u64 (t : Int)] w (StrIs (getL s.data.toList t) w) := by
  have c1 := fun w => rtag_core s w hs
  unfold NumIs at c1
  obtain ⟨⟨n, y⟩, hg⟩ : ∃ g, tagL s.data.toList = g := ⟨_, rfl⟩
  rw [hg] at c1
  simp only at c1
  have hti : (t : Int) ≤ 18446744073709551615 := by omega
  by_cases hy : y = 0
  · subst hy
    by_cases hn : n = t
    · subst hn
      have hinv := tagL_inv hg
      have hsz : s.size = 128 := by have := hinv.1; simpa using this
      have hge : 128 ≤ s.size := by omega
      have hle : s.size ≤ 128 := by omega
      have h8 : 8 < s.size := by omega
      have hgd := getD_at s h8
      obtain ⟨b, hb⟩ : ∃ b, s[8]'h8 = b := ⟨_, rfl⟩
      rw [hb] at hgd
      have hbl := b.toNat_lt
      have hbi : (b.toNat : Int) ≤ 255 := by omega
      by_cases hm : b.toNat ≤ 111
      · have c2 := fun w => rput_any n ((s.data.toList.drop 9).take b.toNat) w ht (by rw [List.length_take]; omega)
        rw [putL_ok hinv.2.2.2.1 (by rw [List.length_take]; omega)] at c2
        unfold StrIs at c2
        simp only at c2
        obtain ⟨D, hD⟩ : ∃ D : ByteArray, D = ⟨((s.data.toList.drop 9).take b.toNat).toArray⟩ := ⟨_, rfl⟩
        obtain ⟨G, hG⟩ : ∃ G : ByteArray, G = ⟨(pageL n ((s.data.toList.drop 9).take b.toNat)).toArray⟩ := ⟨_, rfl⟩
        rw [← hD, ← hG] at c2
        have k1 : ∀ W, (Instr.slice 9 (.string s) (some (.int .i64 9)) (some (.int .i64 (9 + (b.toNat : Int)))) none).run Try.prog W = .ok (.string D) W := by
          intro W
          rw [slice_lh W s Try.underlying9 9 (9 + (b.toNat : Int)) (by omega) (by omega) (by omega), show (9 + (b.toNat : Int)).toNat = 9 + b.toNat by omega, hD]
          exact congrArg (fun x => Result.ok (Value.string x) W) (extract_mid s b.toNat)
        have hbm : (b.toNat : Int) ≤ 111 := by omega
        by_cases hp : G = s
        · have HF : Hid (getL s.data.toList n = ((s.data.toList.drop 9).take b.toNat, 0)) := by
            have h1 : pageL n ((s.data.toList.drop 9).take b.toNat) = s.data.toList := by
              have := hG.symm.trans hp
              have := congrArg (fun x => x.data.toList) this
              simpa using this
            have := getL_ok hg (by rw [hgd]; exact hm) (by rw [hgd]; exact h1)
            rw [hgd] at this
            exact this
          have HD : Hid (D = ⟨((s.data.toList.drop 9).take b.toNat).toArray⟩) := hD
          have hpp : G.toList = s.toList := by rw [hp]
          clear hG hD hp hg hinv hgd hsz hbl
          unfold StrIs
          go_enter Try.func97, Try.ntmps97
          go_wp2_with fail
          go_at_call 109; refine (c1 _).mono ?_; rintro e w1 ⟨rfl, hb1⟩
          go_wp2_with fail
          go_at_call 32; refine (c2 _).mono ?_; rintro e w2 ⟨rfl, hb2⟩
          go_wp2
          go_ret2
          exact ⟨by rw [HF.out, HD.out]; rfl, below2 hb1 hb2⟩
        · have HF : Hid (getL s.data.toList n = ([], 7)) := getL_code hg (fun hc => hp (by rw [hgd] at hc; rw [hG, hc.2]))
          have hpp := ne_of hp
          clear hG hD hp hg hinv hgd hsz hbl
          unfold StrIs
          go_enter Try.func97, Try.ntmps97
          go_wp2_with fail
          go_at_call 109; refine (c1 _).mono ?_; rintro e w1 ⟨rfl, hb1⟩
          go_wp2_with fail
          go_at_call 32; refine (c2 _).mono ?_; rintro e w2 ⟨rfl, hb2⟩
          go_wp2
          go_ret2
          exact ⟨by rw [HF.out]; rfl, below2 hb1 hb2⟩
      · have HF : Hid (getL s.data.toList n = ([], 7)) := getL_code hg (fun hc => hm (by rw [hgd] at hc; exact hc.1))
        have hbm : 111 < (b.toNat : Int) := by omega
        clear hg hinv hgd hsz hbl
        unfold StrIs
        go_enter Try.func97, Try.ntmps97
        go_wp2_with fail
        go_at_call 109; refine (c1 _).mono ?_; rintro e w1 ⟨rfl, hb1⟩
        go_wp2
        go_ret2
        exact ⟨by rw [HF.out]; rfl, hb1⟩
    · have HF : Hid (getL s.data.toList t = ([], 3)) := getL_other hg hn
      have hne : ¬ ((n : Int) = (t : Int)) := by omega
      have hne2 : ((n : Int) == (t : Int)) = false := by rw [beq_eq_false_iff_ne]; exact hne
      clear hg
      unfold StrIs
      go_enter Try.func97, Try.ntmps97
      go_wp2_with fail
      go_at_call 109; refine (c1 _).mono ?_; rintro e w1 ⟨rfl, hb1⟩
      go_wp2
      go_ret2
      exact ⟨by rw [HF.out]; rfl, hb1⟩
  · have hn0 : n = 0 := by
      have := tagL_err s.data.toList (by rw [hg]; exact hy)
      rw [hg] at this; injection this
    subst hn0
    have HF : Hid (getL s.data.toList t = ([], y)) := getL_err hg hy
    have hy2 : (y != 0) = true := by simpa using hy
    clear hg
    unfold StrIs
    go_enter Try.func97, Try.ntmps97
    go_wp2_with fail
    go_at_call 109; refine (c1 _).mono ?_; rintro e w1 ⟨rfl, hb1⟩
    go_wp2
    go_ret2
    exact ⟨by rw [HF.out]; rfl, hb1⟩
theorem rtag_any (l : List UInt8) (w : World) (hl : l.length ≤ 9223372036854775807) : Calls Try.prog 109 #[.string ⟨l.toArray⟩] w (NumIs (tagL l) w) := by
  have := rtag_core ⟨l.toArray⟩ w (by rw [size_list]; exact hl)
  simpa using this
theorem rget_any (l : List UInt8) (t : Nat) (w : World) (hl : l.length ≤ 9223372036854775807) (ht : t < 18446744073709551616) :
    Calls Try.prog 97 #[.string ⟨l.toArray⟩, .int .u64 (t : Int)] w (StrIs (getL l t) w) := by
  have := rget_core ⟨l.toArray⟩ t w (by rw [size_list]; exact hl) ht
  simpa using this
end Go.Proofs.Ytbikcpchlgmoaaa.Page
