/- Plain mathematics: manifests that are saved in turn, the power going at any time. -/
import Derived.Test.YtajcmgccclemdaaManSave
import Derived.Test.YtajcmgccclemdaaManMath
import Derived.Test.YtajcmgccclemdaaManBackM
import Derived.Test.YtajcmgccclemdaaManRefM2
import Derived.Test.YtajcmgccclemdaaDiskMake2
set_option linter.unusedVariables false
namespace Go.Proofs.Ytajcmgccclemdaa.Man
open Go.Proofs.Ytajcmgccclemdaa.Page
open Go.Proofs.Ytajcmgccclemdaa.Disk (Dk readD Ok okB inB ok_mk ok_of holdsL settleF cutIn writeD flushD crashD outD outD_ok zeroS makeD partN partN_le spendF spendE offAfter wholeF getD_mem cutIn_full settleF_len)

/-- a disk whose newest manifest is 'was', the other one of its two sectors being ready for the next one -/
structure Turn (d : Dk) (was : ManT) : Prop where
  ok : Ok d
  three : d.secs.length = 3
  none : d.cache = []
  on : d.off = false
  m0 : was.1 = 0 → was = (0, []) ∧ d.secs.getD 0 [] = zeroS
  m1 : was.1 ≠ 0 → getM (d.secs.getD (was.1 % 2) []) = (was, 0)
  tail : (d.secs.getD ((was.1 + 1) % 2) []).drop 120 ≠ eightL (was.1 + 1)
  side : (d.secs.getD ((was.1 + 1) % 2) []).take 8 = eightL (was.1 + 1) ∨ numL 0 ((d.secs.getD ((was.1 + 1) % 2) []).drop 120) < was.1 ∨ numL 0 ((d.secs.getD ((was.1 + 1) % 2) []).drop 120) = 0
theorem Turn.len {d : Dk} {was : ManT} (h : Turn d was) (k : Nat) : (d.secs.getD (k % 2) []).length = 128 := h.ok.whole _ (getD_mem (by rw [h.three]; omega))
theorem Turn.le {d : Dk} {was : ManT} (h : Turn d was) : was.1 ≤ 4611686018427387904 := by
  by_cases h0 : was.1 = 0
  · omega
  · have := h.m1 h0
    have h2 := (okM_parts (get_ok (s := d.secs.getD (was.1 % 2) []) (by rw [this])).1).1.2
    rw [this] at h2; exact h2
theorem zero_get : getM zeroS = ((0, []), 3) := by
  apply getM_null
  · simp [zeroS]
  · rfl
theorem Turn.read {d : Dk} {was : ManT} (h : Turn d was) (k : Nat) (hk : k < 3) : readD d (k : Int) = (d.secs.getD k [], 0) := by
  unfold readD
  rw [if_pos (ok_mk h.ok), if_neg (by rw [h.on]; decide), if_pos (by unfold inB; rw [h.three]; exact decide_eq_true (by omega)), h.none]
  unfold holdsL
  simp
/-- what the other sector tells is older, or nothing -/
theorem side_old {o : List UInt8} {e : Nat} (ht : o.drop 120 ≠ eightL (e + 1)) (hs : o.take 8 = eightL (e + 1) ∨ numL 0 (o.drop 120) < e ∨ numL 0 (o.drop 120) = 0) (hg : (getM o).2 = 0) : (getM o).1.1 < e := by
  have hh := getM_head hg
  obtain ⟨h1, h2⟩ := get_ok hg
  obtain ⟨⟨p1, p2⟩, p3, _⟩ := okM_parts h1
  have h3 : o.drop 120 = eightL (getM o).1.1 := by
    have := sect_drop (getM o).1 p3
    rw [h2] at this; exact this
  rcases hs with hs | hs | hs
  · exact absurd (hh.symm.trans hs) ht
  · rw [h3, numL_eight _ (by omega)] at hs; exact hs
  · rw [h3, numL_eight _ (by omega)] at hs; omega
theorem Turn.load {d : Dk} {was : ManT} (h : Turn d was) : loadM d = if was.1 = 0 then ((0, []), 3) else (was, 0) := by
  have r0 := h.read 0 (by omega)
  have r1 := h.read 1 (by omega)
  have e0 : readD d 0 = (d.secs.getD 0 [], 0) := r0
  have e1 : readD d 1 = (d.secs.getD 1 [], 0) := r1
  have z0 : (readD d 0).2 = 0 := by rw [e0]
  have z1 : (readD d 1).2 = 0 := by rw [e1]
  have f0 : (readD d 0).1 = d.secs.getD 0 [] := by rw [e0]
  have f1 : (readD d 1).1 = d.secs.getD 1 [] := by rw [e1]
  by_cases hw : was.1 = 0
  · rw [if_pos hw]
    obtain ⟨_, hz⟩ := h.m0 hw
    have ht := h.tail
    have hs := h.side
    rw [hw] at ht hs
    refine load_none z0 z1 (by rw [f0, hz, zero_get]; decide) (fun hg => ?_)
    rw [f1] at hg
    have := side_old ht hs hg
    omega
  · rw [if_neg hw]
    have hm := h.m1 hw
    have hold := fun hg => side_old h.tail h.side hg
    rcases Nat.mod_two_eq_zero_or_one was.1 with h2 | h2
    · have h3 : (was.1 + 1) % 2 = 1 := by omega
      rw [h2] at hm; rw [h3] at hold
      have := load_first (d := d) z0 z1 (by rw [f0, hm]) (by
        rw [f0, f1, hm]
        by_cases hg : (getM (d.secs.getD 1 [])).2 = 0
        · right; have := hold hg; show ¬ was.1 < _; omega
        · exact .inl hg)
      rw [this, f0, hm]
    · have h3 : (was.1 + 1) % 2 = 0 := by omega
      rw [h2] at hm; rw [h3] at hold
      have := load_second (d := d) z0 z1 (by rw [f1, hm]) (by
        rw [f0, f1, hm]
        by_cases hg : (getM (d.secs.getD 0 [])).2 = 0
        · right; exact hold hg
        · exact .inl hg)
      rw [this, f1, hm]
theorem Turn.fuse {d : Dk} {was : ManT} (h : Turn d was) (f : Int) (hf : -1 ≤ f) : Turn ⟨d.secs, d.cache, f, d.off⟩ was :=
  ⟨⟨h.ok.one, h.ok.many, h.ok.few, hf, h.ok.whole, h.ok.puts⟩, h.three, h.none, h.on, h.m0, h.m1, h.tail, h.side⟩
theorem set_same {S : List (List UInt8)} {j : Nat} (x : List UInt8) (hj : j < S.length) : (S.set j x).getD j [] = x := by
  rw [List.getD_eq_getElem?_getD, List.getElem?_set, if_pos rfl, if_pos hj]; rfl
theorem set_other {S : List (List UInt8)} {j k : Nat} (x : List UInt8) (hj : j ≠ k) : (S.set j x).getD k [] = S.getD k [] := by
  rw [List.getD_eq_getElem?_getD, List.getElem?_set, if_neg hj, ← List.getD_eq_getElem?_getD]
/-- the sector of the next manifest, whole -/
theorem Turn.next {d e : Dk} {was m : ManT} (h : Turn d was) (hok : okM m = true) (hm : m.1 = was.1 + 1) (he : Ok e) (hs : e.secs = d.secs.set (m.1 % 2) (sectL m)) (hc : e.cache = []) (ho : e.off = false) : Turn e m := by
  have hle := h.le
  have hj : m.1 % 2 < d.secs.length := by rw [h.three]; omega
  have hne : m.1 % 2 ≠ (m.1 + 1) % 2 := by omega
  have hw2 : (m.1 + 1) % 2 = was.1 % 2 := by omega
  refine ⟨he, by rw [hs, List.length_set, h.three], hc, ho, fun h0 => by omega, fun _ => by rw [hs, set_same _ hj, get_sect hok], ?_, ?_⟩
  · rw [hs, set_other _ hne, hw2]
    by_cases hw : was.1 = 0
    · rw [hw, show (0 : Nat) % 2 = 0 by rfl, (h.m0 hw).2]
      rw [show m.1 + 1 = 2 by omega]; decide
    · have h1 := h.m1 hw
      obtain ⟨h2, h3⟩ := get_ok (s := d.secs.getD (was.1 % 2) []) (by rw [h1])
      rw [h1] at h2 h3
      rw [← h3, sect_drop was (okM_parts h2).2.1]
      intro hc2
      have := eight_inj (by omega) (by omega) hc2
      omega
  · right
    rw [hs, set_other _ hne, hw2]
    by_cases hw : was.1 = 0
    · right; rw [hw, show (0 : Nat) % 2 = 0 by rfl, (h.m0 hw).2]; rfl
    · left
      have h1 := h.m1 hw
      obtain ⟨h2, h3⟩ := get_ok (s := d.secs.getD (was.1 % 2) []) (by rw [h1])
      rw [h1] at h2 h3
      rw [← h3, sect_drop was (okM_parts h2).2.1, numL_eight _ (by omega)]
      omega
/-- the sector of the next manifest, torn -/
theorem Turn.torn {d e : Dk} {was m : ManT} {n : Nat} (h : Turn d was) (hok : okM m = true) (hm : m.1 = was.1 + 1) (hn : n ≤ 128) (he : Ok e) (hs : e.secs = d.secs.set (m.1 % 2) (cutIn n (sectL m) (d.secs.getD (m.1 % 2) []))) (hc : e.cache = []) (ho : e.off = false) :
    Turn e m ∨ (Turn e was) := by
  have hle := h.le
  have hj : m.1 % 2 < d.secs.length := by rw [h.three]; omega
  have hn8 := (okM_parts hok).2.1
  have hsl := sectL_len m hn8
  have hol := h.len m.1
  by_cases hx : cutIn n (sectL m) (d.secs.getD (m.1 % 2) []) = sectL m
  · left; rw [hx] at hs; exact h.next hok hm he hs hc ho
  · right
    have ht := h.tail
    have hsd := h.side
    rw [← hm] at ht hsd
    generalize d.secs.getD (m.1 % 2) [] = o at hs hx ht hsd hol
    have htk := sect_take m
    have hdr := sect_drop m hn8
    generalize sectL m = s at hs hx hsl htk hdr
    have hl : (s.take n).length = n := by rw [List.length_take]; omega
    have hmj : (was.1 + 1) % 2 = m.1 % 2 := by rw [hm]
    have e8 : 8 ≤ n → (cutIn n s o).take 8 = eightL m.1 := fun h8 => by
      rw [cutIn, List.take_append_of_le_length (by omega), List.take_take, Nat.min_eq_left h8, htk]
    have e120 : n ≤ 120 → (cutIn n s o).drop 120 = o.drop 120 := fun h8 => by
      rw [cutIn, List.drop_append, hl, List.drop_eq_nil_of_le (by omega), List.nil_append, List.drop_drop]
      congr 1; omega
    refine ⟨he, by rw [hs, List.length_set, h.three], hc, ho, fun h0 => ⟨(h.m0 h0).1, ?_⟩, fun h0 => ?_, ?_, ?_⟩
    · rw [hs, set_other _ (by omega)]; exact (h.m0 h0).2
    · rw [hs, set_other _ (by omega)]; exact h.m1 h0
    · rw [hmj, hs, set_same _ hj, ← hm]
      by_cases h1 : n ≤ 120
      · rw [e120 h1]; exact ht
      · intro hc2
        apply hx
        have e2 : (cutIn n s o).take 120 = s.take 120 := by
          rw [cutIn, List.take_append_of_le_length (by omega), List.take_take]
          congr 1; omega
        rw [← List.take_append_drop 120 (cutIn n s o), e2, hc2, ← hdr, List.take_append_drop]
    · rw [hmj, hs, set_same _ hj, ← hm]
      by_cases h1 : 8 ≤ n
      · exact .inl (e8 h1)
      · rcases hsd with hsd | hsd
        · left
          rw [cutIn, List.take_append, hl, List.take_of_length_le (by omega), List.take_drop, show n + (8 - n) = 8 by omega, hsd, ← htk]
          rw [show s.take n = (s.take 8).take n by rw [List.take_take, Nat.min_eq_left (by omega)], List.take_append_drop]
        · right; rw [e120 (by omega)]; exact hsd
theorem Turn.follow {d : Dk} {was m : ManT} (h : Turn d was) (hok : okM m = true) (hm : m.1 = was.1 + 1) : followE d m = 0 := by
  have hl := h.load
  unfold followE
  rw [if_pos hok, hl]
  by_cases hw : was.1 = 0
  · rw [if_pos hw]; rw [if_neg (by simp), if_pos (by show m.1 = 0 + 1; omega)]
  · rw [if_neg hw]; rw [if_neg (by simp), if_pos hm]
/-- a save either goes through, or the power goes with the write in the cache -/
theorem Turn.save {d : Dk} {was m : ManT} (h : Turn d was) (hok : okM m = true) (hm : m.1 = was.1 + 1) :
    ((saveM d m).2 = 0 ∧ Turn (saveM d m).1 m) ∨ ((saveM d m).2 = 9 ∧ Ok (saveM d m).1 ∧ (saveM d m).1.secs = d.secs ∧ (saveM d m).1.cache = [(((m.1 % 2 : Nat) : Int), sectL m)]) := by
  have hsl := sectL_len m (okM_parts hok).2.1
  have hj : m.1 % 2 < 3 := by omega
  have hin : inB d.secs.length ((m.1 % 2 : Nat) : Int) = true := by unfold inB; rw [h.three]; exact decide_eq_true (by omega)
  have hw : writeD d ((m.1 % 2 : Nat) : Int) (sectL m) = (⟨d.secs, [(((m.1 % 2 : Nat) : Int), sectL m)], spendF d.fuse false, offAfter d.fuse false⟩, spendE d.fuse false) := by
    unfold writeD
    rw [if_neg (by rw [h.on]; decide), if_neg (by rw [hin]; decide), if_neg (by omega), h.none, if_neg (by simp), h.on]
    rfl
  have hokw : Ok (writeD d ((m.1 % 2 : Nat) : Int) (sectL m)).1 := Disk.write_ok h.ok _ _
  unfold saveM
  rw [if_pos (ok_mk h.ok), if_pos (h.follow hok hm)]
  rw [hw] at hokw ⊢
  simp only at hokw ⊢
  by_cases hf : d.fuse = 0
  · right
    have he : spendE d.fuse false = 9 := by rw [hf]; rfl
    rw [he, if_neg (by decide)]
    exact ⟨rfl, hokw, rfl, rfl⟩
  · have he : spendE d.fuse false = 0 := by unfold spendE; rw [if_neg (by simpa using hf)]
    have ho : offAfter d.fuse false = false := by unfold offAfter; simpa using hf
    rw [ho] at hokw ⊢
    rw [if_pos he, outD_ok hokw]
    rcases Disk.flush_cases ⟨d.secs, [(((m.1 % 2 : Nat) : Int), sectL m)], spendF d.fuse false, false⟩ with ⟨h1, h2⟩ | ⟨h1, h2⟩
    · right
      have hk := Disk.flush_ok hokw
      rw [h2] at hk
      rw [h1, h2]
      exact ⟨rfl, hk, rfl, rfl⟩
    · left
      have hk := Disk.flush_ok hokw
      refine ⟨h1, h.next hok hm hk ?_ (by rw [h2]) (by rw [h2])⟩
      rw [h2]
      show settleF wholeF 0 d.secs [(((m.1 % 2 : Nat) : Int), sectL m)] = _
      rw [settleF, settleF]
      show d.secs.set (((m.1 % 2 : Nat) : Int)).toNat (cutIn 128 (sectL m) (d.secs.getD (((m.1 % 2 : Nat) : Int)).toNat [])) = _
      rw [Int.toNat_natCast, cutIn_full hsl (h.len m.1)]
theorem Turn.crash {d e : Dk} {was m : ManT} (h : Turn d was) (hok : okM m = true) (hm : m.1 = was.1 + 1) (he : Ok e) (hs : e.secs = d.secs) (hc : e.cache = [(((m.1 % 2 : Nat) : Int), sectL m)]) (keep : List Bool) (torn bytes : Int) :
    Turn (crashD e keep torn bytes).1 m ∨ Turn (crashD e keep torn bytes).1 was := by
  refine h.torn (n := partN keep torn bytes 0) hok hm (partN_le _ _ _ _) (Disk.crash_ok he keep torn bytes) ?_ rfl rfl
  show settleF (partN keep torn bytes) 0 e.secs e.cache = _
  rw [hs, hc, settleF, settleF, Int.toNat_natCast]
theorem turn_make : Turn (makeD 3).1 (0, []) := by
  refine ⟨ok_of (by decide +kernel), by decide +kernel, rfl, rfl, fun _ => ⟨rfl, by decide +kernel⟩, fun h => absurd rfl h, by decide +kernel, .inr (.inr (by decide +kernel))⟩
end Go.Proofs.Ytajcmgccclemdaa.Man
