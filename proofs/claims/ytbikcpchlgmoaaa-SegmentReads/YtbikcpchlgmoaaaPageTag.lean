/- What page.Put, Tag, within, Get and the document's Eight, Number, Zeros, Put, Tag, Get return, for every input. -/
import Derived.Test.YtbikcpchlgmoaaaPageWalk
set_option linter.unusedVariables false
namespace Go.Proofs.Ytbikcpchlgmoaaa.Page
open Go.RowKit

/-- what Put answers -/
def putL (t : Nat) (d : List UInt8) : List UInt8 × Int := if t = 0 then ([], 1) else if d.length ≤ 111 then (pageL t d, 0) else ([], 11)
theorem putL_zero (d : List UInt8) : putL 0 d = ([], 1) := rfl
theorem putL_long {t : Nat} {d : List UInt8} (h : t ≠ 0) (hd : ¬ d.length ≤ 111) : putL t d = ([], 11) := by rw [putL, if_neg h, if_neg hd]
theorem putL_ok {t : Nat} {d : List UInt8} (h : t ≠ 0) (hd : d.length ≤ 111) : putL t d = (pageL t d, 0) := by rw [putL, if_neg h, if_pos hd]
def StrIs (r : List UInt8 × Int) (w : World) (e : Ending) (w' : World) : Prop := e = .returned (.tuple #[.string ⟨r.1.toArray⟩, .int .i64 r.2]) ∧ Below w.heap.size w w'
def NumIs (r : Nat × Int) (w : World) (e : Ending) (w' : World) : Prop := e = .returned (.tuple #[.int .u64 (r.1 : Int), .int .i64 r.2]) ∧ Below w.heap.size w w'

set_option maxHeartbeats 1000000 in
theorem put_any (n : Nat) (l : List UInt8) (w : World) (h : n < 18446744073709551616) (hl : l.length ≤ 9223372036854775807) :
    Calls Try.prog 59 #[.int .u64 (n : Int), .string ⟨l.toArray⟩] w (StrIs (putL n l) w) := by
  have hz : (⟨l.toArray⟩ : ByteArray).size = l.length := size_list l
  by_cases h0 : n = 0
  · subst h0
    rw [putL_zero]
    unfold StrIs
    go_enter Try.func59, Try.ntmps59
    go_wp2
    go_ret2
    exact ⟨rfl, Below.refl _ _⟩
  · have hn0 : ((n : Int) == 0) = false := by rw [beq_eq_false_iff_ne]; omega
    have hne : ¬ ((n : Int) = 0) := by omega
    by_cases hd : l.length ≤ 111
    · have c1 := fun w => laid_any n l w h hd
      rw [putL_ok h0 hd]
      unfold StrIs
      obtain ⟨S, hS⟩ : ∃ S : ByteArray, S = ⟨l.toArray⟩ := ⟨_, rfl⟩
      rw [← hS] at hz c1 ⊢
      have hzi : S.size ≤ 111 := by omega
      clear hS hz h h0
      go_enter Try.func59, Try.ntmps59
      go_wp2_with fail
      go_at_call 85; refine (c1 _).mono ?_; rintro e w1 ⟨rfl, hb1⟩
      go_wp2
      go_ret2
      exact ⟨rfl, hb1⟩
    · rw [putL_long h0 hd]
      unfold StrIs
      obtain ⟨S, hS⟩ : ∃ S : ByteArray, S = ⟨l.toArray⟩ := ⟨_, rfl⟩
      rw [← hS] at hz ⊢
      have hzi : 111 < S.size := by omega
      have hzl : S.size ≤ 9223372036854775807 := by omega
      clear hS hz h h0
      go_enter Try.func59, Try.ntmps59
      go_wp2
      go_ret2
      exact ⟨rfl, Below.refl _ _⟩

theorem wraps64 (n : Int) (h₀ : 0 ≤ n) (h₁ : n < 2 ^ 64) : IntKind.u64.wrap n = n := by rw [IntKind.wrap_u64]; omega
theorem or_low (a : Int) (b : Int) (ha : 0 ≤ a) (ha1 : a < 72057594037927936) (hb : 0 ≤ b) (hb1 : b ≤ 255) : bits BinOp.or IntKind.u64 (a * 256) b = a * 256 + b :=
  bits_join .u64 64 (by decide) wraps64 8 (a * 256) b (by omega) (by omega) (by omega) hb (by omega) (by omega)
theorem pow_step (R j b : Nat) (h : R < 256 ^ j) (hb : b < 256) : 256 * R + b < 256 ^ (j + 1) := by
  rw [Nat.pow_succ]; omega
theorem pow_7 (R j : Nat) (h : R < 256 ^ j) (hj : j ≤ 7) : R < 72057594037927936 := by
  have : 256 ^ j ≤ 256 ^ 7 := Nat.pow_le_pow_right (by decide) hj
  omega
theorem eq_of {F T : ByteArray} (h : F = T) : (F.toList == T.toList) = true := by rw [h]; simp
theorem ne_of {F T : ByteArray} (h : F ≠ T) : (F.toList == T.toList) = false := by
  rw [ByteArray.toList_eq, ByteArray.toList_eq]
  apply beq_eq_false_iff_ne.2
  intro hc
  exact h (by cases F; cases T; simp at hc; rw [hc])
theorem arr_inj {a b : List UInt8} (h : (⟨a.toArray⟩ : ByteArray) = ⟨b.toArray⟩) : a = b := by simpa using h
theorem head_cons (s : ByteArray) (j : Nat) (h : j < 8) (hs : s.size = 128) : (s.data.toList.take 8).drop j = s[j] :: (s.data.toList.take 8).drop (j + 1) := by
  rw [List.drop_eq_getElem_cons (by simp; omega), List.getElem_take]; rfl
set_option maxRecDepth 20000 in
set_option maxHeartbeats 2000000 in
theorem tag_core (s : ByteArray) (w : World) (hs : s.size ≤ 9223372036854775807) :
    Calls Try.prog 107 #[.string s] w (NumIs (tagL s.data.toList) w) := by
  have hdl : s.data.toList.length = s.size := by simp
  by_cases h : s.size = 128
  · have x1 : s.extract 0 8 = ⟨(s.data.toList.take 8).toArray⟩ := extract_take s 8
    have x2 : s.extract 120 128 = ⟨(s.data.toList.drop 120).toArray⟩ := by have := extract_drop s 120; rw [h] at this; exact this
    by_cases he : s.data.toList.take 8 = s.data.toList.drop 120
    · have heq : ((s.extract 0 8).toList == (s.extract 120 128).toList) = true := eq_of (by rw [x1, x2, he])
      have hee : (s.extract 0 8).toList = (s.extract 120 128).toList := by rw [x1, x2, he]
      have HT : Hid (numL 0 (s.data.toList.take 8) ≠ 0 → tagL s.data.toList = (numL 0 (s.data.toList.take 8), 0)) := fun hn => tagL_ok (by omega) he hn
      have HN : Hid (numL 0 (s.data.toList.take 8) = 0 → tagL s.data.toList = (0, 3)) := fun hn => tagL_none (by omega) (fun hc => hc.2 hn)
      clear x1 x2 he hdl
      unfold NumIs
      go_enter Try.func107, Try.ntmps107
      go_wp2_with fail
      go_quiet (fail)
      go_wp2_with fail
      go_loop [4, 14] (fun t i => ∃ j R : Nat, j ≤ 8 ∧ Hid (R < 256 ^ j) ∧ i = .int .i64 j ∧ t = .int .u64 (R : Int) ∧ Hid (numL 0 (s.data.toList.take 8) = numL R ((s.data.toList.take 8).drop j))) (fun _ i => 8 - (intOf i).toNat)
      case atStart => exact ⟨0, 0, by omega, (by decide : 0 < 256 ^ 0), rfl, rfl, (rfl : numL 0 _ = _)⟩
      case round =>
        obtain ⟨j, R, hj, HR, rfl, rfl, HG⟩ := hrel
        by_cases hlt : j < 8
        · have HD : Hid ((s.data.toList.take 8).drop j = s[j] :: (s.data.toList.take 8).drop (j + 1)) := head_cons s j hlt h
          have hRi : (R : Int) ≤ 72057594037927935 := by have := pow_7 R j HR.out (by omega); omega
          have hbi : ((s[j]).toNat : Int) ≤ 255 := by have := (s[j]).toNat_lt; omega
          have e1 := or_low (R : Int) ((s[j]).toNat : Int) (by omega) (by omega) (by omega) hbi
          have hjs : j < s.size := by omega
          go_wp2
          go_round
          case rel =>
            refine ⟨j + 1, 256 * R + (s[j]).toNat, by omega, pow_step R j _ HR.out (by have := (s[j]).toNat_lt; omega), by go_num, ?_, ?_⟩
            · congr 1; omega
            · show _ = _
              rw [HG.out, HD.out, numL]
          case measure => simp [intOf]; omega
        · obtain rfl : j = 8 := by omega
          have hE : numL 0 (s.data.toList.take 8) = R := by rw [HG.out, List.drop_of_length_le (by simp; omega)]; rfl
          by_cases hR0 : R = 0
          · subst hR0
            have HF : Hid (tagL s.data.toList = (0, 3)) := HN.out hE
            clear hE
            go_wp2
            go_ret2
            exact ⟨by rw [HF.out]; rfl, by first | exact below_drewN (Below.refl _ _) _ | exact (Below.refl _ _).drew⟩
          · have hT := HT.out (by rw [hE]; exact hR0)
            rw [hE] at hT
            have HF : Hid (tagL s.data.toList = (R, 0)) := hT
            have hRne : ¬ ((R : Int) = 0) := by omega
            clear hE hT
            go_wp2
            go_ret2
            exact ⟨by rw [HF.out]; rfl, by first | exact below_drewN (Below.refl _ _) _ | exact (Below.refl _ _).drew⟩
    · rw [tagL_none (by omega) (fun hc => he hc.1)]
      unfold NumIs
      have hne : ((s.extract 0 8).toList == (s.extract 120 128).toList) = false := ne_of (fun hc => he (by rw [x1, x2] at hc; exact arr_inj hc))
      clear x1 x2 he hdl
      go_enter Try.func107, Try.ntmps107
      go_wp2_with fail
      go_quiet (fail)
      go_wp2
      go_ret2
      exact ⟨rfl, below_drewN (Below.refl _ _) _⟩
  · rw [tagL_long (by omega)]
    unfold NumIs
    have hne : ¬ ((s.size : Int) = 128) := by omega
    clear hdl
    go_enter Try.func107, Try.ntmps107
    go_wp2
    go_ret2
    exact ⟨rfl, Below.refl _ _⟩
theorem tag_any (l : List UInt8) (w : World) (hl : l.length ≤ 9223372036854775807) : Calls Try.prog 107 #[.string ⟨l.toArray⟩] w (NumIs (tagL l) w) := by
  have := tag_core ⟨l.toArray⟩ w (by rw [size_list]; exact hl)
  simpa using this
theorem getD_at (s : ByteArray) (h : 8 < s.size) : s.data.toList.getD 8 0 = s[8] := by
  rw [List.getD_eq_getElem?_getD, List.getElem?_eq_getElem (by simpa using h)]; rfl
theorem slice_lh {P : Program} (W : World) {t : TypeId} (s : ByteArray) (ht : P.underlying t = some .string) (l h : Int) (h0 : 0 ≤ l) (h1 : l ≤ h) (h2 : h ≤ s.size) :
    (Instr.slice t (.string s) (some (.int .i64 l)) (some (.int .i64 h)) none).run P W = .ok (.string (s.extract l.toNat h.toNat)) W := by
  have h3 : 0 ≤ h := by omega
  have h4 : ¬ max h 0 < l := by omega
  simp [Instr.slice, run_underlying ht, Instr.sliceBounds, run_sliceBound_if, *]
theorem extract_mid (s : ByteArray) (m : Nat) : s.extract 9 (9 + m) = ⟨((s.data.toList.drop 9).take m).toArray⟩ := by
  apply ByteArray.ext
  rw [ByteArray.data_extract]
  apply Array.toList_inj.1
  simp
set_option maxRecDepth 20000 in
set_option maxHeartbeats 2000000 in
theorem within_core (s : ByteArray) (t : Nat) (w : World) (hs : s.size ≤ 9223372036854775807) (ht : t < 18446744073709551616) :
    Calls Try.prog 93 #[.string s, .int .u64 (t : Int)] w (StrIs (getL s.data.toList t) w) := by
  have c1 := fun w => tag_core s w hs
  unfold NumIs at c1
  obtain ⟨⟨n, y⟩, hg⟩ : ∃ g, tagL s.data.toList = g := ⟨_, rfl⟩
  rw [hg] at c1
  simp only at c1
  have hti : (t : Int) ≤ 18446744073709551615 := by omega
  by_cases hy : y = 0
  · subst hy
    by_cases hn : n = t
    · subst hn
      have hinv := tagL_inv hg
      have hsz : s.size = 128 := by have := hinv.1; simpa using this
      have hge : 128 ≤ s.size := by omega
      have hle : s.size ≤ 128 := by omega
      have h8 : 8 < s.size := by omega
      have hgd := getD_at s h8
      obtain ⟨b, hb⟩ : ∃ b, s[8]'h8 = b := ⟨_, rfl⟩
      rw [hb] at hgd
      have hbl := b.toNat_lt
      have hbi : (b.toNat : Int) ≤ 255 := by omega
      by_cases hm : b.toNat ≤ 111
      · have c2 := fun w => laid_any n ((s.data.toList.drop 9).take b.toNat) w ht (by rw [List.length_take]; omega)
        obtain ⟨D, hD⟩ : ∃ D : ByteArray, D = ⟨((s.data.toList.drop 9).take b.toNat).toArray⟩ := ⟨_, rfl⟩
        obtain ⟨G, hG⟩ : ∃ G : ByteArray, G = ⟨(pageL n ((s.data.toList.drop 9).take b.toNat)).toArray⟩ := ⟨_, rfl⟩
        rw [← hD, ← hG] at c2
        have k1 : ∀ W, (Instr.slice 9 (.string s) (some (.int .i64 9)) (some (.int .i64 (9 + (b.toNat : Int)))) none).run Try.prog W = .ok (.string D) W := by
          intro W
          rw [slice_lh W s Try.underlying9 9 (9 + (b.toNat : Int)) (by omega) (by omega) (by omega), show (9 + (b.toNat : Int)).toNat = 9 + b.toNat by omega, hD]
          exact congrArg (fun x => Result.ok (Value.string x) W) (extract_mid s b.toNat)
        have hbm : (b.toNat : Int) ≤ 111 := by omega
        by_cases hp : G = s
        · have HF : Hid (getL s.data.toList n = ((s.data.toList.drop 9).take b.toNat, 0)) := by
            have h1 : pageL n ((s.data.toList.drop 9).take b.toNat) = s.data.toList := by
              have := hG.symm.trans hp
              have := congrArg (fun x => x.data.toList) this
              simpa using this
            have := getL_ok hg (by rw [hgd]; exact hm) (by rw [hgd]; exact h1)
            rw [hgd] at this
            exact this
          have HD : Hid (D = ⟨((s.data.toList.drop 9).take b.toNat).toArray⟩) := hD
          have hpp : G.toList = s.toList := by rw [hp]
          clear hG hD hp hg hinv hgd hsz hbl
          unfold StrIs
          go_enter Try.func93, Try.ntmps93
          go_wp2_with fail
          go_at_call 107; refine (c1 _).mono ?_; rintro e w1 ⟨rfl, hb1⟩
          go_wp2_with fail
          go_at_call 85; refine (c2 _).mono ?_; rintro e w2 ⟨rfl, hb2⟩
          go_wp2
          go_ret2
          exact ⟨by rw [HF.out, HD.out]; rfl, below2 hb1 hb2⟩
        · have HF : Hid (getL s.data.toList n = ([], 7)) := getL_code hg (fun hc => hp (by rw [hgd] at hc; rw [hG, hc.2]))
          have hpp := ne_of hp
          clear hG hD hp hg hinv hgd hsz hbl
          unfold StrIs
          go_enter Try.func93, Try.ntmps93
          go_wp2_with fail
          go_at_call 107; refine (c1 _).mono ?_; rintro e w1 ⟨rfl, hb1⟩
          go_wp2_with fail
          go_at_call 85; refine (c2 _).mono ?_; rintro e w2 ⟨rfl, hb2⟩
          go_wp2
          go_ret2
          exact ⟨by rw [HF.out]; rfl, below2 hb1 hb2⟩
      · have HF : Hid (getL s.data.toList n = ([], 7)) := getL_code hg (fun hc => hm (by rw [hgd] at hc; exact hc.1))
        have hbm : 111 < (b.toNat : Int) := by omega
        clear hg hinv hgd hsz hbl
        unfold StrIs
        go_enter Try.func93, Try.ntmps93
        go_wp2_with fail
        go_at_call 107; refine (c1 _).mono ?_; rintro e w1 ⟨rfl, hb1⟩
        go_wp2
        go_ret2
        exact ⟨by rw [HF.out]; rfl, hb1⟩
    · have HF : Hid (getL s.data.toList t = ([], 3)) := getL_other hg hn
      have hne : ¬ ((n : Int) = (t : Int)) := by omega
      have hne2 : ((n : Int) == (t : Int)) = false := by rw [beq_eq_false_iff_ne]; exact hne
      clear hg
      unfold StrIs
      go_enter Try.func93, Try.ntmps93
      go_wp2_with fail
      go_at_call 107; refine (c1 _).mono ?_; rintro e w1 ⟨rfl, hb1⟩
      go_wp2
      go_ret2
      exact ⟨by rw [HF.out]; rfl, hb1⟩
  · have hn0 : n = 0 := by
      have := tagL_err s.data.toList (by rw [hg]; exact hy)
      rw [hg] at this; injection this
    subst hn0
    have HF : Hid (getL s.data.toList t = ([], y)) := getL_err hg hy
    have hy2 : (y != 0) = true := by simpa using hy
    clear hg
    unfold StrIs
    go_enter Try.func93, Try.ntmps93
    go_wp2_with fail
    go_at_call 107; refine (c1 _).mono ?_; rintro e w1 ⟨rfl, hb1⟩
    go_wp2
    go_ret2
    exact ⟨by rw [HF.out]; rfl, hb1⟩
theorem within_any (l : List UInt8) (t : Nat) (w : World) (hl : l.length ≤ 9223372036854775807) (ht : t < 18446744073709551616) :
    Calls Try.prog 93 #[.string ⟨l.toArray⟩, .int .u64 (t : Int)] w (StrIs (getL l t) w) := by
  have := within_core ⟨l.toArray⟩ t w (by rw [size_list]; exact hl) ht
  simpa using this
theorem clone_any (s : ByteArray) (w : World) (hs : s.size ≤ 281474976710656) :
    Calls Try.prog 56 #[.string s] w fun e w' => e = .returned (.string s) ∧ Below w.heap.size w w' := by
  go_enter Try.func56, Try.ntmps56
  go_wp2_with (go_at_call 81; refine (Try.stringslite_Clone s _ hs).mono ?_; rintro e w1 ⟨rfl, hb⟩)
  go_ret
  exact ⟨rfl, hb⟩
end Go.Proofs.Ytbikcpchlgmoaaa.Page
