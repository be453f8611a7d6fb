/- Plain mathematics: pages that are written and flushed, and then a manifest, the power going at any time. -/
import Derived.Test.YtajcmgccclemdabManSave
import Derived.Test.YtajcmgccclemdabManMath
import Derived.Test.YtajcmgccclemdabManBackM
import Derived.Test.YtajcmgccclemdabManRefM2
import Derived.Test.YtajcmgccclemdabMathKept
import Derived.Test.YtajcmgccclemdabPageBackM
set_option linter.unusedVariables false
namespace Go.Proofs.Ytajcmgccclemdab.Man
open Go.Proofs.Ytajcmgccclemdab.Page
open Go.Proofs.Ytajcmgccclemdab.Disk (Dk readD Ok okB inB ok_mk ok_of holdsL settleF cutIn writeD flushD crashD outD outD_ok zeroS makeD partN partN_le spendF spendE offAfter wholeF getD_mem cutIn_full settleF_len allH allH_len allH_put settleF_other PutT)

theorem zero_getM : getM zeroS = ((0, []), 3) := by
  apply getM_null
  · simp [zeroS]
  · rfl
theorem zero_tag : tagL zeroS = (0, 3) := by decide +kernel
/-- so many pages were written, and there is power still -/
structure Wr (P : List (List UInt8)) (k : Nat) (d : Dk) : Prop where
  ok : Ok d
  fuse : d.fuse ≤ 9223372036854775807
  off : d.off = false
  len : d.secs.length = 40
  few : d.cache.length = k
  low : ∀ j, j < 2 → d.secs[j]? = some zeroS
  two : ∀ p ∈ d.cache, 2 ≤ p.1
  held : ∀ j, j < 38 → (allH d)[2 + j]? = some (if j < k then P.getD j [] else zeroS)
/-- the power is gone ahead of the manifest -/
structure Gone (d : Dk) : Prop where
  ok : Ok d
  fuse : d.fuse ≤ 9223372036854775807
  len : d.secs.length = 40
  low : ∀ j, j < 2 → d.secs[j]? = some zeroS
  two : ∀ p ∈ d.cache, 2 ≤ p.1
/-- all pages were flushed -/
structure Fl (P : List (List UInt8)) (d : Dk) : Prop where
  ok : Ok d
  fuse : d.fuse ≤ 9223372036854775807
  off : d.off = false
  none : d.cache = []
  len : d.secs.length = 40
  low : ∀ j, j < 2 → d.secs[j]? = some zeroS
  pages : ∀ j, j < 38 → d.secs[2 + j]? = some (if j < P.length then P.getD j [] else zeroS)
theorem rep_at (j : Nat) (h : j < 40) : (List.replicate 40 zeroS)[j]? = some zeroS := by rw [List.getElem?_replicate, if_pos h]
theorem wr_make (P : List (List UInt8)) (f : Int) (h0 : -1 ≤ f) (h1 : f ≤ 9223372036854775807) : Wr P 0 ⟨(makeD 40).1.secs, (makeD 40).1.cache, f, (makeD 40).1.off⟩ := by
  have hm : makeD 40 = (⟨List.replicate 40 zeroS, [], -1, false⟩, 0) := rfl
  rw [hm]
  refine ⟨⟨by simp, by simp, by simp, h0, fun z hz => by rw [List.eq_of_mem_replicate hz]; simp [zeroS], by simp⟩, h1, rfl, by simp, rfl, fun j hj => rep_at j (by omega), by simp, fun j hj => ?_⟩
  show (List.replicate 40 zeroS)[2 + j]? = _
  rw [rep_at _ (by omega), if_neg (by omega)]
theorem wr_write {P : List (List UInt8)} {k : Nat} {d : Dk} (h : Wr P k d) (hk : k < P.length) (hP : P.length ≤ 30) (hl : ∀ z ∈ P, z.length = 128) :
    ((writeD d ((2 + k : Nat) : Int) P[k]).2 = 0 ∧ Wr P (k + 1) (writeD d ((2 + k : Nat) : Int) P[k]).1) ∨ ((writeD d ((2 + k : Nat) : Int) P[k]).2 = 9 ∧ Gone (writeD d ((2 + k : Nat) : Int) P[k]).1) := by
  have hz := hl P[k] (List.getElem_mem hk)
  have hin : inB d.secs.length ((2 + k : Nat) : Int) = true := by unfold inB; rw [h.len]; exact decide_eq_true (by omega)
  have hw : writeD d ((2 + k : Nat) : Int) P[k] = (⟨d.secs, d.cache ++ [(((2 + k : Nat) : Int), P[k])], spendF d.fuse false, offAfter d.fuse false⟩, spendE d.fuse false) := by
    unfold writeD
    rw [if_neg (by rw [h.off]; decide), if_neg (by rw [hin]; decide), if_neg (by omega), if_neg (by rw [h.few]; omega), h.off]
  have hok := Disk.write_ok h.ok ((2 + k : Nat) : Int) P[k]
  have hff := Disk.write_fuse h.fuse ((2 + k : Nat) : Int) P[k]
  rw [hw] at hok hff ⊢
  simp only at hok hff ⊢
  have htwo : ∀ p ∈ d.cache ++ [(((2 + k : Nat) : Int), P[k])], 2 ≤ p.1 := fun p hp => by
    simp only [List.mem_append, List.mem_singleton] at hp
    rcases hp with hp | rfl
    · exact h.two p hp
    · show (2 : Int) ≤ ((2 + k : Nat) : Int); omega
  by_cases hf : d.fuse = 0
  · right
    exact ⟨by rw [hf]; rfl, hok, hff, h.len, h.low, htwo⟩
  · left
    have he : spendE d.fuse false = 0 := by unfold spendE; rw [if_neg (by simpa using hf)]
    have ho : offAfter d.fuse false = false := by unfold offAfter; simpa using hf
    rw [ho] at hok ⊢
    refine ⟨he, hok, hff, rfl, h.len, by simp [h.few], h.low, htwo, fun j hj => ?_⟩
    rw [allH_put h.ok hin hz, Int.toNat_natCast, List.getElem?_set]
    by_cases hjk : k = j
    · subst hjk
      rw [if_pos rfl, if_pos (by rw [allH_len, h.len]; omega), if_pos (by omega), List.getD_eq_getElem?_getD, List.getElem?_eq_getElem hk]; rfl
    · rw [if_neg (by omega), h.held j hj]
      by_cases hjl : j < k
      · rw [if_pos hjl, if_pos (by omega)]
      · rw [if_neg hjl, if_neg (by omega)]
theorem low_held {d : Dk} (hlow : ∀ j, j < 2 → d.secs[j]? = some zeroS) (htwo : ∀ p ∈ d.cache, 2 ≤ p.1) (part : Nat → Nat) (j : Nat) (hj : j < 2) : (settleF part 0 d.secs d.cache)[j]? = some zeroS := by
  rw [settleF_other part j d.cache 0 d.secs (fun p hp => ⟨by have := htwo p hp; omega, by have := htwo p hp; omega⟩), hlow j hj]
theorem wr_flush {P : List (List UInt8)} {d : Dk} (h : Wr P P.length d) : ((flushD d).2 = 0 ∧ Fl P (flushD d).1) ∨ ((flushD d).2 = 9 ∧ Gone (flushD d).1) := by
  have hok := Disk.flush_ok h.ok
  have hff := Disk.flush_fuse h.fuse
  rcases Disk.flush_cases d with ⟨h1, h2⟩ | ⟨h1, h2⟩
  · right
    rw [h2] at hok hff ⊢
    exact ⟨h1, hok, hff, h.len, h.low, h.two⟩
  · left
    rw [h2] at hok hff ⊢
    exact ⟨h1, hok, hff, rfl, rfl, by show (allH d).length = 40; rw [allH_len, h.len], fun j hj => low_held h.low h.two wholeF j hj, h.held⟩
theorem getD_of {S : List (List UInt8)} {j : Nat} {z : List UInt8} (h : S[j]? = some z) : S.getD j [] = z := by rw [List.getD_eq_getElem?_getD, h]; rfl
theorem read_at {d : Dk} (ok : Ok d) (off : d.off = false) (none : d.cache = []) (len : d.secs.length = 40) (k : Nat) (hk : k < 40) : readD d (k : Int) = (d.secs.getD k [], 0) := by
  unfold readD
  rw [if_pos (ok_mk ok), if_neg (by rw [off]; decide), if_pos (by unfold inB; rw [len]; exact decide_eq_true (by omega)), none]
  unfold holdsL
  simp
theorem load_pg {d : Dk} (ok : Ok d) (off : d.off = false) (none : d.cache = []) (len : d.secs.length = 40) (h0 : d.secs.getD 0 [] = zeroS) : loadM d = if (getM (d.secs.getD 1 [])).2 = 0 then ((getM (d.secs.getD 1 [])).1, 0) else ((0, []), 3) := by
  have e0 : readD d 0 = (d.secs.getD 0 [], 0) := read_at ok off none len 0 (by omega)
  have e1 : readD d 1 = (d.secs.getD 1 [], 0) := read_at ok off none len 1 (by omega)
  have g0 : (getM (readD d 0).1).2 ≠ 0 := by rw [e0, h0, zero_getM]; decide
  by_cases hg : (getM (d.secs.getD 1 [])).2 = 0
  · rw [if_pos hg, load_second (by rw [e0]) (by rw [e1]) (by rw [e1]; exact hg) (.inl g0), e1]
  · rw [if_neg hg, load_none (by rw [e0]) (by rw [e1]) g0 (by rw [e1]; exact hg)]
/-- what a crash leaves: nothing, or all -/
structure EndN (G : Dk) : Prop where
  ok : Ok G
  fuse : G.fuse ≤ 9223372036854775807
  load : loadM G = ((0, []), 3)
  len : (allH G).length = 40
structure EndL (t : Nat) (l : List UInt8) (m : ManT) (G : Dk) : Prop where
  ok : Ok G
  fuse : G.fuse ≤ 9223372036854775807
  load : loadM G = (m, 0)
  len : (allH G).length = 40
  join : joinL ((allH G).drop 2) t = (l, cntL l)
theorem gone_crash {d : Dk} (h : Gone d) (keep : List Bool) (torn bytes : Int) : EndN (crashD d keep torn bytes).1 := by
  have hok := Disk.crash_ok h.ok keep torn bytes
  have hs : (crashD d keep torn bytes).1.secs = settleF (partN keep torn bytes) 0 d.secs d.cache := rfl
  have hl : (crashD d keep torn bytes).1.secs.length = 40 := by rw [hs, settleF_len, h.len]
  have z0 := getD_of (low_held h.low h.two (partN keep torn bytes) 0 (by omega))
  have z1 := getD_of (low_held h.low h.two (partN keep torn bytes) 1 (by omega))
  refine ⟨hok, by show (-1 : Int) ≤ _; decide, ?_, by rw [allH_len, hl]⟩
  rw [load_pg hok rfl rfl hl (by rw [hs]; exact z0), hs, z1, zero_getM, if_neg (by decide)]
/-- the pages of a disk whose sector 1 is x -/
theorem pages_join2 {t : Nat} {l x : List UInt8} {d : Dk} (h : Fl (splitL t l) d) (h0 : 1 ≤ t) (h1 : t ≤ 4611686018427387904) (hl : l.length ≤ 14208) (hc : cntL l ≤ 30) : joinL ((d.secs.set 1 x).drop 2) t = (l, cntL l) := by
  have e : (d.secs.set 1 x).drop 2 = splitL t l ++ List.replicate (38 - cntL l) zeroS := by
    apply List.ext_getElem?
    intro j
    have hsl := splitL_len t l
    rw [List.getElem?_drop, List.getElem?_set, if_neg (by omega)]
    by_cases hj : j < 38
    · rw [h.pages j hj, hsl]
      by_cases hjc : j < cntL l
      · rw [if_pos hjc, List.getElem?_append_left (by omega), List.getD_eq_getElem?_getD, List.getElem?_eq_getElem (by omega)]; rfl
      · rw [if_neg hjc, List.getElem?_append_right (by omega), List.getElem?_replicate, if_pos (by omega)]
    · rw [List.getElem?_eq_none (by rw [h.len]; omega), List.getElem?_eq_none (by simp [hsl]; omega)]
  rw [e]
  refine split_join t l _ h0 h1 hl (fun s hs => ?_)
  rw [List.eq_of_mem_replicate hs, zero_tag]
  simp
theorem fl_save {P : List (List UInt8)} {d : Dk} {m : ManT} (h : Fl P d) (hok : okM m = true) (hm : m.1 = 1) :
    ((saveM d m).2 = 0 ∧ (saveM d m).1.cache = [] ∧ (saveM d m).1.secs = d.secs.set 1 (sectL m) ∧ Ok (saveM d m).1 ∧ (saveM d m).1.fuse ≤ 9223372036854775807) ∨
    ((saveM d m).2 = 9 ∧ (saveM d m).1.cache = [(1, sectL m)] ∧ (saveM d m).1.secs = d.secs ∧ Ok (saveM d m).1 ∧ (saveM d m).1.fuse ≤ 9223372036854775807) := by
  have hsl := sectL_len m (okM_parts hok).2.1
  have hld : loadM d = ((0, []), 3) := by
    rw [load_pg h.ok h.off h.none h.len (getD_of (h.low 0 (by omega))), getD_of (h.low 1 (by omega)), zero_getM, if_neg (by decide)]
  have hfo : followE d m = 0 := by
    unfold followE
    rw [if_pos hok, hld, if_neg (by simp), if_pos (by show m.1 = 0 + 1; omega)]
  have hin : inB d.secs.length (1 : Int) = true := by unfold inB; rw [h.len]; decide
  have hp : ((m.1 % 2 : Nat) : Int) = 1 := by rw [hm]; rfl
  have hw : writeD d 1 (sectL m) = (⟨d.secs, [(1, sectL m)], spendF d.fuse false, offAfter d.fuse false⟩, spendE d.fuse false) := by
    unfold writeD
    rw [if_neg (by rw [h.off]; decide), if_neg (by rw [hin]; decide), if_neg (by omega), h.none, if_neg (by simp), h.off]
    rfl
  have hokw : Ok (writeD d 1 (sectL m)).1 := Disk.write_ok h.ok _ _
  have hfw : (writeD d 1 (sectL m)).1.fuse ≤ 9223372036854775807 := Disk.write_fuse h.fuse _ _
  unfold saveM
  rw [if_pos (ok_mk h.ok), if_pos hfo, hp]
  rw [hw] at hokw hfw ⊢
  simp only at hokw hfw ⊢
  by_cases hf : d.fuse = 0
  · right
    have he : spendE d.fuse false = 9 := by rw [hf]; rfl
    rw [he, if_neg (by decide)]
    exact ⟨rfl, rfl, rfl, hokw, hfw⟩
  · have he : spendE d.fuse false = 0 := by unfold spendE; rw [if_neg (by simpa using hf)]
    have ho : offAfter d.fuse false = false := by unfold offAfter; simpa using hf
    rw [ho] at hokw ⊢
    rw [if_pos he, outD_ok hokw]
    have hk := Disk.flush_ok hokw
    have hkf : (flushD ⟨d.secs, [(1, sectL m)], spendF d.fuse false, false⟩).1.fuse ≤ 9223372036854775807 := Disk.flush_fuse hfw
    rcases Disk.flush_cases ⟨d.secs, [(1, sectL m)], spendF d.fuse false, false⟩ with ⟨h1, h2⟩ | ⟨h1, h2⟩
    · right
      rw [h2] at hk hkf
      rw [h1, h2]
      exact ⟨rfl, rfl, rfl, hk, hkf⟩
    · left
      rw [h2] at hk hkf
      rw [h1, h2]
      refine ⟨rfl, rfl, ?_, hk, hkf⟩
      show settleF wholeF 0 d.secs [(1, sectL m)] = _
      rw [settleF, settleF]
      show d.secs.set (1 : Int).toNat (cutIn 128 (sectL m) (d.secs.getD (1 : Int).toNat [])) = _
      rw [show (1 : Int).toNat = 1 from rfl, getD_of (h.low 1 (by omega)), cutIn_full hsl (by simp [zeroS])]
theorem set_one {S : List (List UInt8)} (x : List UInt8) (h : S.length = 40) : (S.set 1 x).getD 1 [] = x ∧ (S.set 1 x).getD 0 [] = S.getD 0 [] := by
  constructor
  · rw [List.getD_eq_getElem?_getD, List.getElem?_set, if_pos rfl, if_pos (by omega)]; rfl
  · rw [List.getD_eq_getElem?_getD, List.getElem?_set, if_neg (by omega), ← List.getD_eq_getElem?_getD]
/-- behind a crash: the manifest with all pages, or none -/
theorem end_set {t : Nat} {l x : List UInt8} {d G : Dk} {m : ManT} (h : Fl (splitL t l) d) (hok : okM m = true) (h0 : 1 ≤ t) (h1 : t ≤ 4611686018427387904) (hl : l.length ≤ 14208) (hc : cntL l ≤ 30)
    (hG : Ok G) (hf : G.fuse = -1) (ho : G.off = false) (hn : G.cache = []) (hs : G.secs = d.secs.set 1 x) (hx : x = sectL m ∨ (getM x).2 ≠ 0) : (EndL t l m G ∧ x = sectL m) ∨ (EndN G ∧ (getM x).2 ≠ 0) := by
  have hlen : G.secs.length = 40 := by rw [hs, List.length_set, h.len]
  obtain ⟨s1, s0⟩ := set_one x h.len
  have hld := load_pg hG ho hn hlen (by rw [hs, s0]; exact getD_of (h.low 0 (by omega)))
  rw [hs, s1] at hld
  have hall : allH G = d.secs.set 1 x := by
    unfold allH; rw [hn, hs]; rfl
  rcases hx with rfl | hx
  · left
    refine ⟨⟨hG, by rw [hf]; decide, ?_, by rw [allH_len, hlen], by rw [hall]; exact pages_join2 h h0 h1 hl hc⟩, rfl⟩
    rw [hld, get_sect hok, if_pos rfl]
  · right
    refine ⟨⟨hG, by rw [hf]; decide, by rw [hld, if_neg hx], by rw [allH_len, hlen]⟩, hx⟩
theorem sv_crash {t : Nat} {l : List UInt8} {d e : Dk} {m : ManT} (h : Fl (splitL t l) d) (hok : okM m = true) (h0 : 1 ≤ t) (h1 : t ≤ 4611686018427387904) (hl : l.length ≤ 14208) (hc : cntL l ≤ 30)
    (he : Ok e) (hn : e.cache = []) (hs : e.secs = d.secs.set 1 (sectL m)) (keep : List Bool) (torn bytes : Int) : EndL t l m (crashD e keep torn bytes).1 := by
  have hG := Disk.crash_ok he keep torn bytes
  have hs2 : (crashD e keep torn bytes).1.secs = d.secs.set 1 (sectL m) := by
    show settleF (partN keep torn bytes) 0 e.secs e.cache = _
    rw [hn, hs]; rfl
  rcases end_set h hok h0 h1 hl hc hG rfl rfl rfl hs2 (.inl rfl) with ⟨hE, _⟩ | ⟨_, hx⟩
  · exact hE
  · exact absurd (by rw [get_sect hok]) hx
theorem pw_crash {t : Nat} {l : List UInt8} {d e : Dk} {m : ManT} (h : Fl (splitL t l) d) (hok : okM m = true) (hm : m.1 = 1) (h0 : 1 ≤ t) (h1 : t ≤ 4611686018427387904) (hl : l.length ≤ 14208) (hc : cntL l ≤ 30)
    (he : Ok e) (hn : e.cache = [(1, sectL m)]) (hs : e.secs = d.secs) (keep : List Bool) (torn bytes : Int) : EndL t l m (crashD e keep torn bytes).1 ∨ EndN (crashD e keep torn bytes).1 := by
  have hG := Disk.crash_ok he keep torn bytes
  have hsl := sectL_len m (okM_parts hok).2.1
  have z1 := getD_of (h.low 1 (by omega))
  have hs2 : (crashD e keep torn bytes).1.secs = d.secs.set 1 (cutIn (partN keep torn bytes 0) (sectL m) zeroS) := by
    show settleF (partN keep torn bytes) 0 e.secs e.cache = _
    rw [hn, hs, settleF, settleF, show ((1 : Int), sectL m).1.toNat = 1 from rfl, z1]
  have hx : cutIn (partN keep torn bytes 0) (sectL m) zeroS = sectL m ∨ (getM (cutIn (partN keep torn bytes 0) (sectL m) zeroS)).2 ≠ 0 := by
    by_cases hg : (getM (cutIn (partN keep torn bytes 0) (sectL m) zeroS)).2 = 0
    · left
      have hne : zeroS.drop 120 ≠ (sectL m).drop 120 := by
        rw [sect_drop m (okM_parts hok).2.1, hm]; decide
      rcases torn_m hsl (by simp [zeroS]) (partN_le keep torn bytes 0) ((sect_take m).trans (sect_drop m (okM_parts hok).2.1).symm) hne hg with h2 | h2 | h2
      · exact h2
      · have h3 : cutIn (partN keep torn bytes 0) (sectL m) zeroS = zeroS := h2
        rw [h3, zero_getM] at hg
        exact absurd hg (by decide)
      · exact absurd rfl h2
    · exact .inr hg
  rcases end_set h hok h0 h1 hl hc hG rfl rfl rfl hs2 hx with ⟨hE, _⟩ | ⟨hE, _⟩
  · exact .inl hE
  · exact .inr hE
end Go.Proofs.Ytajcmgccclemdab.Man
