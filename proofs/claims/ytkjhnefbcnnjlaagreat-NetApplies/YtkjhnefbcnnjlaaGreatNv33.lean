/- What a round of the document's happens does. -/
import Derived.Test.YtkjhnefbcnnjlaaGreatNv17
import Derived.Test.YtkjhnefbcnnjlaaGreatNv31
import Derived.Test.YtkjhnefbcnnjlaaGreatNv32
import Derived.Test.YtkjhnefbcnnjlaaGreatNv28
import Derived.Test.YtkjhnefbcnnjlaaGreatNv30
set_option linter.unusedVariables false
namespace Go.Proofs.YtkjhnefbcnnjlaaGreat.Nt
open Go.RowKit
open Go.Proofs.YtkjhnefbcnnjlaaGreat.Lk (HasLks HasLks.keep)
open Go.Proofs.YtkjhnefbcnnjlaaGreat.Tr (HasRts HasRts.keep)
open Go.Proofs.YtkjhnefbcnnjlaaGreat.Fib
open Go.Proofs.YtkjhnefbcnnjlaaGreat.Ord (St HasSts okL HasSts.keep HasSts.cell)
open Go.Proofs.YtkjhnefbcnnjlaaGreat.Addr (RowAt below2 below_new RowAt.cell RowAt.below RowAt.new RowAt.alloc cells2 cells4 Bl bl_ne wp_region_bl bl_call)
set_option maxHeartbeats 2000000 in
set_option maxRecDepth 20000 in
theorem rmany_any (L : List Ro) (v : Value) (w : World) (h : HasRos w v L) (hl : L.length ≤ 1000) (hs : ∀ R ∈ L, manyR R ≤ 1000) :
    Calls Tryz.prog 27 #[v] w fun e w' => e = .returned (.int .i64 (sizeN L : Int)) ∧ Below w.heap.size w w' := by
  obtain ⟨o, c, rfl, hc1, hc2⟩ := HasRos.slice h
  have HR : Hid (∀ wr : World, Below w.heap.size w wr → HasRos wr (.slice o L.length c) L) := fun wr hb => h.keep hb
  obtain ⟨n, hn⟩ : ∃ n, n = L.length := ⟨_, rfl⟩
  have HN : Hid (n = L.length) := hn
  have HS : Hid (∀ R ∈ L, manyR R ≤ 1000) := hs
  rw [← hn] at HR hc1 hl ⊢
  have hni : (n : Int) ≤ 1000 := by omega
  clear h hn hs
  go_enter Tryz.func27, Tryz.ntmps27
  go_wp2_with fail
  go_loopw [3, 8] (fun q i wr => ∃ k : Nat, k ≤ n ∧ i = .int .i64 k ∧ (∃ m : Nat, q = .int .i64 m ∧ Hid (m = sizeN (L.take k))) ∧ Below w.heap.size w wr) (fun _ i _ => n - (Go.RowKit.intOf i).toNat)
  case atStart => exact ⟨0, by omega, rfl, ⟨0, rfl, by show 0 = _; rw [List.take_zero]; rfl⟩, Below.refl _ _⟩
  case round =>
    obtain ⟨k, hk, rfl, ⟨m, rfl, HM⟩, hB⟩ := hrel
    by_cases hlt : k < n
    · have hkz : k < L.length := by rw [← HN.out]; exact hlt
      obtain ⟨b1, i1, o1, c1, o2, c2, rfl, hb1, a0, a1, a2, a3, _, _⟩ := HasRos.cell (HR.out _ hB) k hkz
      have hm1 : m ≤ 1000000 := by
        have h1 := sizeN_le (L.take k) 1000 (fun R hR => HS.out R (List.mem_of_mem_take hR))
        rw [List.length_take] at h1
        have h2 : min k L.length * 1000 ≤ 1000 * 1000 := Nat.mul_le_mul_right _ (by omega)
        rw [← HM.out] at h1
        omega
      have hmk : L[k].rts.length + L[k].lks.length ≤ 1000 := HS.out _ (List.getElem_mem hkz)
      have HM2 : Hid (∀ x y, x = L[k].rts.length → y = L[k].lks.length → m + (x + y) = sizeN (L.take (k + 1))) := fun x y e1 e2 => by
        rw [sizeN_snoc L k hkz, ← HM.out, e1, e2]
      obtain ⟨x, hx⟩ : ∃ x, x = L[k].rts.length := ⟨_, rfl⟩
      obtain ⟨y, hy⟩ : ∃ y, y = L[k].lks.length := ⟨_, rfl⟩
      have HM3 : Hid (m + (x + y) = sizeN (L.take (k + 1))) := HM2.out x y hx hy
      rw [← hx] at a2 hmk
      rw [← hy] at a3 hmk
      clear hx hy HM2 HM
      generalize L[k].id = id at a0
      generalize L[k].up = up at a1
      have hki : (k : Int) < (n : Int) := by omega
      have hmi : (m : Int) ≤ 1000000 := by omega
      have hxy : (x : Int) + (y : Int) ≤ 1000 := by omega
      obtain ⟨X, hX⟩ : ∃ X, X = wr.alloc (.cells #[.int .i64 id, .bool up, .slice o1 x c1, .slice o2 y c2] 51) := ⟨_, rfl⟩
      have hbX : Below wr.heap.size wr X := by rw [hX]; exact below_new (Below.refl _ _) _
      have r0 : RowAt X wr.heap.size [.int .i64 id, .bool up, .slice o1 x c1, .slice o2 y c2] 51 := by rw [hX]; exact RowAt.new _ _ _
      go_upto_region 5 with fail
      rw [← hX]
      have hBX := below2 hB hbX
      clear hX hbX a0 a1 a2 a3 hb1
      generalize wr.heap.size = gs at r0 ⊢
      obtain ⟨y0, y1, y2, y3, yf⟩ := cells4 r0
      go_wp2_with fail
      go_roundw
      case rel => exact ⟨k + 1, by omega, by go_num, ⟨m + (x + y), by go_num, HM3⟩, hBX⟩
      case measure => simp [Go.RowKit.intOf]; omega
    · have hkn2 : k = n := by omega
      subst hkn2
      have hkd : decide ((k : Int) < (k : Int)) = false := decide_eq_false (by omega)
      have HF : Hid (m = sizeN L) := by show m = _; rw [HM.out, HN.out, List.take_length]
      clear HM
      go_wp2_with fail
      go_ret
      exact ⟨by rw [HF.out]; rfl, hB⟩
set_option maxHeartbeats 8000000 in
set_option maxRecDepth 20000 in
theorem rcheck_walk (S : List St) (L : List Ro) (so lo : Option Addr) (sn ln sc lc : Nat) (w : World) (hs : HasSts w (.slice so sn sc) S) (hl : HasRos w (.slice lo ln lc) L) (en : Hid (sn = S.length)) (el : Hid (ln = L.length)) (hf : ∀ R ∈ L, FitRo R)
    (co : ∀ W, HasSts W (.slice so sn sc) S → Calls Tryz.prog 25 #[.slice so sn sc] W fun e w' => e = .returned (.int .i64 (if okL S then 0 else 2)) ∧ Below W.heap.size W w') :
    Calls Tryz.prog 12 #[.agg #[.slice so sn sc, .slice lo ln lc]] w fun e w' => e = .returned (.int .i64 (checkN ⟨S, L⟩)) ∧ Below w.heap.size w w' := by
  have HC : Hid (checkN ⟨S, L⟩ = if okL S && (decide (L.length = S.length) && (eachR L S && decide (sizeN L ≤ 1024))) then 0 else 2) := rfl
  generalize checkN ⟨S, L⟩ = R at HC ⊢
  have HF : Hid (∀ R ∈ L, FitRo R) := hf
  have HOL : Hid (okL S = true → S.length ≤ 64) := fun h => by unfold okL at h; simp only [Bool.and_eq_true, decide_eq_true_eq] at h; exact h.1
  clear hf
  obtain ⟨X, hX⟩ : ∃ X, X = w.alloc (.cells #[.slice so sn sc, .slice lo ln lc] 25) := ⟨_, rfl⟩
  have hB : Below w.heap.size w X := by rw [hX]; exact below_new (Below.refl _ _) _
  have r0 : RowAt X w.heap.size [.slice so sn sc, .slice lo ln lc] 25 := by rw [hX]; exact RowAt.new _ _ _
  replace hs := hs.keep hB
  replace hl := hl.keep hB
  go_enter Tryz.func12, Tryz.ntmps12
  go_upto_region 1 with fail
  rw [← hX]
  clear hX
  generalize w.heap.size = gn at r0 ⊢
  obtain ⟨x0, x1, xf⟩ := cells2 r0
  go_wp2_with fail
  go_at_call 25; refine (co _ hs).mono ?_; rintro e w1 ⟨rfl, hb1⟩
  replace hB := below2 hB hb1
  replace r0 := RowAt.below r0 hb1
  replace hs := hs.keep hb1
  replace hl := hl.keep hb1
  clear x0 x1 xf hb1 co
  obtain ⟨x0, x1, xf⟩ := cells2 r0
  cases hok : okL S
  · have HV : Hid (R = 2) := by show R = 2; rw [HC.out, hok]; rfl
    clear HC
    simp only [Bool.false_eq_true, if_false]
    go_wp2_with fail
    go_ret
    exact ⟨by first | (rw [HV.out]; rfl) | rfl, hB⟩
  simp only [if_true]
  have h64 := HOL.out hok
  by_cases hlen : L.length = S.length
  rotate_left
  · have HV : Hid (R = 2) := by show R = 2; rw [HC.out, hok, decide_eq_false hlen]; rfl
    have hne : ((ln : Int) != (sn : Int)) = true := by rw [bne_iff_ne, en.out, el.out]; omega
    have hne2 : ¬ ln = sn := by rw [en.out, el.out]; exact hlen
    clear HC
    go_wp2_with fail
    go_ret
    exact ⟨by first | (rw [HV.out]; rfl) | rfl, hB⟩
  have hls : ln = sn := by rw [en.out, el.out]; exact hlen
  subst hls
  have hne : ((ln : Int) != (ln : Int)) = false := by simp
  have hn64 : ln ≤ 64 := by rw [en.out]; exact h64
  have hni : (ln : Int) ≤ 64 := by omega
  have HE : Hid (R = if eachR L S && decide (sizeN L ≤ 1024) then 0 else 2) := by show R = _; rw [HC.out, hok, decide_eq_true hlen]; rfl
  have HEI : Hid (eachR L S = true ↔ ∀ j (h1 : j < L.length) (h2 : j < S.length), fitsR L[j] S[j] = true) := eachR_iff L S hlen
  clear HC HOL hok h64
  have HLEN : Hid (L.length = S.length) := hlen
  clear hlen
  go_wp2_with fail
  clear x0 x1 xf
  go_loopw [21] (fun i wr => ∃ k : Nat, k ≤ ln ∧ i = .int .i64 k ∧ Hid (Below w1.heap.size w1 wr ∧ ∀ j (h1 : j < L.length) (h2 : j < S.length), j < k → fitsR L[j] S[j] = true)) (fun i _ => ln - (Go.RowKit.intOf i).toNat)
  case atStart => exact ⟨0, by omega, rfl, Below.refl _ _, fun j h1 h2 h3 => by omega⟩
  case round =>
    obtain ⟨k, hk, rfl, HI⟩ := hrel
    have hbl := HI.out.1
    by_cases hlt : k < ln
    · have hkz : k < L.length := by rw [← el.out]; exact hlt
      have hks : k < S.length := by rw [← en.out]; exact hlt
      obtain ⟨b1, i1, o1, c1, o2, c2, rfl, hb1, a0, a1, a2, a3, ar, ak⟩ := HasRos.cell (hl.keep hbl) k hkz
      obtain ⟨b2, i2, rfl, hb2, s0, s1, s2, s3⟩ := HasSts.cell (hs.keep hbl) k hks
      have cf0 : ∀ W, HasRts W (.slice o1 L[k].rts.length c1) L[k].rts → HasLks W (.slice o2 L[k].lks.length c2) L[k].lks → Calls Tryz.prog 26 #[.agg #[.int .i64 L[k].id, .bool L[k].up, .slice o1 L[k].rts.length c1, .slice o2 L[k].lks.length c2]] W fun e w' => e = .returned (.int .i64 (if okRo L[k] then 0 else 2)) ∧ Below W.heap.size W w' := fun W h1 h2 => Fib.rcheck_any L[k] _ _ W h1 h2 (HF.out _ (List.getElem_mem hkz)).rts
      have HFT : Hid (fitsR L[k] S[k] = (okRo L[k] && (decide (L[k].id = S[k].router) && decide (L[k].up = S[k].up)))) := rfl
      have HBAD : Hid (fitsR L[k] S[k] = false → R = 2) := fun h => by
        rw [HE.out]
        have : eachR L S = false := by
          cases hx : eachR L S with
          | false => rfl
          | true => rw [HEI.out.1 hx k hkz hks] at h; cases h
        rw [this]; rfl
      have HNX : Hid (fitsR L[k] S[k] = true → ∀ j (h1 : j < L.length) (h2 : j < S.length), j < k + 1 → fitsR L[j] S[j] = true) := fun h j h1 h2 h3 => by
        rcases Nat.lt_or_ge j k with h4 | h4
        · exact HI.out.2 j h1 h2 h4
        · have : j = k := by omega
          subst this; exact h
      generalize fitsR L[k] S[k] = F at HFT HBAD HNX
      generalize L[k].rts = rts at *
      generalize L[k].lks = lks at *
      generalize okRo L[k] = kr at cf0 HFT
      generalize L[k].id = id at *
      generalize L[k].up = up at *
      generalize S[k].router = sr at *
      generalize S[k].up = su at *
      generalize (S[k].seq : Int) = sq at *
      generalize S[k].time = stt at *
      generalize rts.length = n1 at *
      generalize lks.length = n2 at *
      have hki : (k : Int) < (ln : Int) := by omega
      obtain ⟨Y, hY⟩ : ∃ Y, Y = wr.alloc (.cells #[.int .i64 id, .bool up, .slice o1 n1 c1, .slice o2 n2 c2] 51) := ⟨_, rfl⟩
      have hbY : Below wr.heap.size wr Y := by rw [hY]; exact below_new (Below.refl _ _) _
      have rY : RowAt Y wr.heap.size [.int .i64 id, .bool up, .slice o1 n1 c1, .slice o2 n2 c2] 51 := by rw [hY]; exact RowAt.new _ _ _
      go_upto_region 6 with fail
      rw [← hY]
      have hbn : Below w1.heap.size w1 Y := below2 hbl hbY
      have rn := RowAt.below r0 hbn
      have u0 : ∀ p : Bl Y, p.W.cell? ⟨b2, i2 + k * 4, none⟩ = some (.int .i64 sr) := fun p => ((hbY.trans (p.h.mono hbY.size)).cell (p := ⟨b2, i2 + k * 4, none⟩) hb2).trans s0
      have u3 : ∀ p : Bl Y, p.W.cell? ⟨b2, i2 + k * 4 + 3, none⟩ = some (.bool su) := fun p => ((hbY.trans (p.h.mono hbY.size)).cell (p := ⟨b2, i2 + k * 4 + 3, none⟩) hb2).trans s3
      have cf : ∀ p : Bl Y, Calls Tryz.prog 26 #[.agg #[.int .i64 id, .bool up, .slice o1 n1 c1, .slice o2 n2 c2]] p.W fun e w' => e = .returned (.int .i64 (if kr then 0 else 2)) ∧ Below p.W.heap.size p.W w' := fun p => cf0 p.W (ar.keep (hbY.trans (p.h.mono hbY.size))) (ak.keep (hbY.trans (p.h.mono hbY.size)))
      clear hY a0 a1 a2 a3 s0 s1 s2 s3 ar ak cf0 hb1 hb2 hbY
      generalize wr.heap.size = gs at rY ⊢
      have v0 : ∀ p : Bl Y, p.W.cell? ⟨gs, 0, none⟩ = some (.int .i64 id) := fun p => (rY.below p.h).cell 0
      have v1 : ∀ p : Bl Y, p.W.cell? ⟨gs, 1, none⟩ = some (.bool up) := fun p => (rY.below p.h).cell 1
      have v2 : ∀ p : Bl Y, p.W.cell? ⟨gs, 2, none⟩ = some (.slice o1 n1 c1) := fun p => (rY.below p.h).cell 2
      have v3 : ∀ p : Bl Y, p.W.cell? ⟨gs, 3, none⟩ = some (.slice o2 n2 c2) := fun p => (rY.below p.h).cell 3
      have t0 : ∀ p : Bl Y, p.W.cell? ⟨gn, 0, none⟩ = some (.slice (some ⟨b2, i2, none⟩) ln sc) := fun p => (rn.below p.h).cell 0
      haveI := bl_ne Y
      cases kr
      · have HV : Hid (R = 2) := HBAD.out (by rw [HFT.out]; rfl)
        simp only [Bool.false_eq_true, if_false] at cf
        clear HBAD HNX HFT
        refine wp_region_bl (by kernel_rfl) (by kernel_rfl) ?_
        repeat (go_big_quiet_step (first | (go_at_call 26; with_reducible exact bl_call (cf _))))
        refine wpQuiet_nil ?_
        intro wq hw'
        obtain ⟨⟨wz, hq⟩, hw2⟩ := hw'
        subst hw2
        have hW := below2 hB (below2 hbn hq)
        go_wp2_with fail
        go_ret
        exact ⟨by first | (rw [HV.out]; rfl) | rfl, hW⟩
      simp only [if_true] at cf
      by_cases hid : id = sr
      rotate_left
      · have HV : Hid (R = 2) := HBAD.out (by rw [HFT.out, decide_eq_false hid]; rfl)
        have hd : (id != sr) = true := by rw [bne_iff_ne]; exact hid
        clear HBAD HNX HFT
        refine wp_region_bl (by kernel_rfl) (by kernel_rfl) ?_
        repeat (go_big_quiet_step (first | (go_at_call 26; with_reducible exact bl_call (cf _))))
        refine wpQuiet_nil ?_
        intro wq hw'
        obtain ⟨⟨wz, hq⟩, hw2⟩ := hw'
        subst hw2
        have hW := below2 hB (below2 hbn hq)
        go_wp2_with fail
        go_ret
        exact ⟨by first | (rw [HV.out]; rfl) | rfl, hW⟩
      subst hid
      have hd : (id != id) = false := by simp
      cases hud : decide (up = su)
      · have HV : Hid (R = 2) := HBAD.out (by rw [HFT.out, hud, decide_eq_true rfl]; rfl)
        have hsu : su = !up := by
          have := of_decide_eq_false hud
          cases up <;> cases su <;> simp_all
        subst hsu
        clear HBAD HNX HFT hud
        cases up
        all_goals
          simp only [Bool.not_false, Bool.not_true] at u3
          refine wp_region_bl (by kernel_rfl) (by kernel_rfl) ?_
          repeat (go_big_quiet_step (first | (go_at_call 26; with_reducible exact bl_call (cf _))))
          refine wpQuiet_nil ?_
          intro wq hw'
          obtain ⟨⟨wz, hq⟩, hw2⟩ := hw'
          subst hw2
          have hW := below2 hB (below2 hbn hq)
          go_wp2_with fail
          go_ret
          exact ⟨by first | (rw [HV.out]; rfl) | rfl, hW⟩
      · have HG : Hid (∀ j (h1 : j < L.length) (h2 : j < S.length), j < k + 1 → fitsR L[j] S[j] = true) := HNX.out (by rw [HFT.out, hud, decide_eq_true rfl]; rfl)
        have hus : up = su := of_decide_eq_true hud
        subst hus
        have hd2 : (up != up) = false := by simp
        clear HBAD HNX HFT hud
        refine wp_region_bl (by kernel_rfl) (by kernel_rfl) ?_
        repeat (go_big_quiet_step (first | (go_at_call 26; with_reducible exact bl_call (cf _))))
        refine wpQuiet_nil ?_
        intro wq hw'
        obtain ⟨⟨wz, hq⟩, hw2⟩ := hw'
        subst hw2
        have hW := below2 hbn hq
        go_wp2_with fail
        go_roundw
        case rel => exact ⟨k + 1, by omega, by go_num, hW, HG.out⟩
        case measure => simp [Go.RowKit.intOf]; omega
    · have hkn2 : k = ln := by omega
      subst hkn2
      have hkd : decide ((k : Int) < (k : Int)) = false := decide_eq_false (by omega)
      have hall : ∀ j (h1 : j < L.length) (h2 : j < S.length), fitsR L[j] S[j] = true := fun j h1 h2 => HI.out.2 j h1 h2 (by rw [el.out]; exact h1)
      have HT : Hid (R = if decide (sizeN L ≤ 1024) then 0 else 2) := by show R = _; rw [HE.out, HEI.out.2 hall]; rfl
      have cz := rmany_any L _ wr (hl.keep hbl) (by have := el.out; omega) (fun Q hQ => by
        obtain ⟨j, hj, rfl⟩ := List.getElem_of_mem hQ
        exact (okRo_many (fitsR_ok (hall j hj (by rw [← HLEN.out]; exact hj))).1).1)
      have hW := below2 hB hbl
      obtain ⟨x0, x1, xf⟩ := cells2 (RowAt.below r0 hbl)
      have HSZ : Hid (sizeN L ≤ 100000000) := by
        have := sizeN_le L 1000 (fun Q hQ => by
          obtain ⟨j, hj, rfl⟩ := List.getElem_of_mem hQ
          exact (okRo_many (fitsR_ok (hall j hj (by rw [← HLEN.out]; exact hj))).1).1)
        have h9 : L.length ≤ 64 := by rw [← el.out]; exact hn64
        have := Nat.mul_le_mul_right 1000 h9
        show _ ≤ _
        omega
      clear HI HE HEI hall hbl
      generalize sizeN L = z at *
      go_wp2_with fail
      go_at_call 27; refine cz.mono ?_; rintro e w5 ⟨rfl, hb5⟩
      replace hW := below2 hW hb5
      cases hz : decide (z ≤ 1024)
      · have HV : Hid (R = 2) := by show R = 2; rw [HT.out, hz]; rfl
        have q1 : decide ((1024 : Int) < (z : Int)) = true := decide_eq_true (by have := of_decide_eq_false hz; omega)
        have q2 : decide (1024 < z) = true := decide_eq_true (by have := of_decide_eq_false hz; omega)
        clear HT hz
        go_wp2_with fail
        go_ret
        exact ⟨by first | (rw [HV.out]; rfl) | rfl, hW⟩
      · have HV : Hid (R = 0) := by show R = 0; rw [HT.out, hz]; rfl
        have q1 : decide ((1024 : Int) < (z : Int)) = false := decide_eq_false (by have := of_decide_eq_true hz; omega)
        have q2 : decide (1024 < z) = false := decide_eq_false (by have := of_decide_eq_true hz; omega)
        clear HT hz
        go_wp2_with fail
        go_ret
        exact ⟨by first | (rw [HV.out]; rfl) | rfl, hW⟩
theorem rcheck_any (n : NetT) (u v : Value) (w : World) (hs : HasSts w u n.seats) (hl : HasRos w v n.ros) (hf : ∀ R ∈ n.ros, FitRo R) :
    Calls Tryz.prog 12 #[.agg #[u, v]] w fun e w' => e = .returned (.int .i64 (checkN n)) ∧ Below w.heap.size w w' := by
  obtain ⟨so, sc, rfl, _⟩ := Ord.HasRow.slice hs
  obtain ⟨lo, lc, rfl, _⟩ := HasRos.slice hl
  exact rcheck_walk n.seats n.ros so lo _ _ sc lc w hs hl rfl rfl hf (fun W h => Ord.rcheck_any n.seats _ W h)
end Go.Proofs.YtkjhnefbcnnjlaaGreat.Nt
namespace Go.Proofs.YtkjhnefbcnnjlaaGreat.Nt
open Go.RowKit
open Go.Proofs.YtkjhnefbcnnjlaaGreat.Lk (HasLks HasRow HasLks.keep)
open Go.Proofs.YtkjhnefbcnnjlaaGreat.Tr (HasRts HasRts.keep)
open Go.Proofs.YtkjhnefbcnnjlaaGreat.Fib
open Go.Proofs.YtkjhnefbcnnjlaaGreat.Ord (St HasSts HasSts.keep HasEvs.keep)
open Go.Proofs.YtkjhnefbcnnjlaaGreat.Addr (RowAt below2 below_new RowAt.cell RowAt.below RowAt.new RowAt.alloc cells2 cells4)
/-- a router that a search returned, and whether it is there -/
def FdIs (R : Ro) (b : Bool) (w : World) (e : Ending) (w' : World) : Prop :=
  ∃ o2 n2 m2 o3 n3 m3, e = .returned (.tuple #[.agg #[.int .i64 R.id, .bool R.up, .slice o2 n2 m2, .slice o3 n3 m3], .bool b]) ∧ HasRts w' (.slice o2 n2 m2) R.rts ∧ HasLks w' (.slice o3 n3 m3) R.lks ∧ Below w.heap.size w w'
def firstR (L : List Ro) (r : Int) : Option Ro := L.find? (fun R => decide (R.id = r))
set_option maxHeartbeats 8000000 in
set_option maxRecDepth 20000 in
theorem rfind_walk (so lo : Option Addr) (sn sc ln lc : Nat) (id : Int) (S : List St) (L : List Ro) (w : World) (hS : HasSts w (.slice so sn sc) S) (hL : HasRos w (.slice lo ln lc) L) (HLN : Hid (ln = L.length)) (hlni : (ln : Int) ≤ 9223372036854775807) :
    Calls Tryz.prog 36 #[.agg #[.slice so sn sc, .slice lo ln lc], .int .i64 id] w (FdIs ((firstR L id).getD zeroRo) (firstR L id).isSome w) := by
  have hB := Below.refl w.heap.size w
  go_enter Tryz.func36, Tryz.ntmps36
  obtain ⟨Y1, hY⟩ : ∃ Y, Y = ((w.alloc (.cells #[.slice so sn sc, .slice lo ln lc] 25)).alloc (.cells #[.int .i64 0, .bool false, .slice none 0 0, .slice none 0 0] 51)) := ⟨_, rfl⟩
  have hbY : Below w.heap.size w Y1 := by rw [hY]; exact below_new (below_new (Below.refl _ _) _) _
  have hle : w.heap.size ≤ w.heap.size := hB.size
  obtain ⟨gn, hgn⟩ : ∃ g, g = w.heap.size := ⟨_, rfl⟩
  have rn : RowAt Y1 gn [.slice so sn sc, .slice lo ln lc] 25 := by
    have h := (RowAt.new w [.slice so sn sc, .slice lo ln lc] 25).alloc (.cells #[.int .i64 0, .bool false, .slice none 0 0, .slice none 0 0] 51)
    rw [hgn, hY]; exact h
  have len : w.heap.size ≤ gn := by omega
  obtain ⟨gz, hgz⟩ : ∃ g, g = w.heap.size + 1 := ⟨_, rfl⟩
  have rz : RowAt Y1 gz [.int .i64 0, .bool false, .slice none 0 0, .slice none 0 0] 51 := by
    have h := RowAt.new (w.alloc (.cells #[.slice so sn sc, .slice lo ln lc] 25)) [.int .i64 0, .bool false, .slice none 0 0, .slice none 0 0] 51
    simp only [World.size_alloc] at h
    rw [hgz, hY]; exact h
  have lez : w.heap.size ≤ gz := by omega
  have nenz : gn ≠ gz := by omega
  replace hS := hS.keep hbY
  replace hL := hL.keep hbY
  replace hB := below2 hB hbY
  go_upto_region 1 with fail
  rw [← hY, ← hgz, ← hgn]
  clear hY hbY hle hgn hgz
  obtain ⟨n0, n1, nf⟩ := cells2 rn
  go_wp2_with fail
  clear n0 n1 nf
  go_loopw [11] (fun i wr => ∃ k : Nat, k ≤ ln ∧ i = .int .i64 k ∧ Hid (Below Y1.heap.size Y1 wr ∧ ∀ j (h : j < L.length), j < k → L[j].id ≠ id)) (fun i _ => ln - (Go.RowKit.intOf i).toNat)
  case atStart => exact ⟨0, by omega, rfl, Below.refl _ _, fun j h h2 => by omega⟩
  case round =>
    obtain ⟨k, hk, rfl, HI⟩ := hrel
    have hbl := HI.out.1
    by_cases hlt : k < ln
    · have hkz : k < L.length := by rw [← HLN.out]; exact hlt
      obtain ⟨b1, i1, p1, q1, p2, q2, rfl, hb1, x0, x1, x2, x3, xr, xl⟩ := HasRos.cell (hL.keep hbl) k hkz
      have HF : Hid (L[k].id = id → firstR L id = some L[k]) := fun he => by
        unfold firstR
        rw [List.find?_eq_some_iff_getElem]
        exact ⟨decide_eq_true he, k, hkz, rfl, fun j hj => by simp; exact HI.out.2 j (by omega) hj⟩
      have HX : Hid (L[k].id ≠ id → ∀ j (h : j < L.length), j < k + 1 → L[j].id ≠ id) := fun he j h h2 => by
        rcases Nat.lt_or_ge j k with h3 | h3
        · exact HI.out.2 j h h3
        · have : j = k := by omega
          subst this; exact he
      have HXR : Hid (HasRts wr (.slice p1 L[k].rts.length q1) L[k].rts ∧ HasLks wr (.slice p2 L[k].lks.length q2) L[k].lks) := ⟨xr, xl⟩
      obtain ⟨R, hR⟩ : ∃ R, R = L[k] := ⟨_, rfl⟩
      rw [← hR] at x0 x1 x2 x3 HF HX HXR
      clear hR xr xl HI
      generalize R.rts.length = l1 at *
      generalize R.lks.length = l2 at *
      have hki : (k : Int) < (ln : Int) := by omega
      obtain ⟨V, hV⟩ : ∃ V, V = wr.alloc (.cells #[.int .i64 R.id, .bool R.up, .slice p1 l1 q1, .slice p2 l2 q2] 51) := ⟨_, rfl⟩
      have hbV : Below wr.heap.size wr V := by rw [hV]; exact below_new (Below.refl _ _) _
      have rV : RowAt V wr.heap.size [.int .i64 R.id, .bool R.up, .slice p1 l1 q1, .slice p2 l2 q2] 51 := by rw [hV]; exact RowAt.new _ _ _
      go_upto_region 4 with fail
      rw [← hV]
      have hbn : Below Y1.heap.size Y1 V := below2 hbl hbV
      replace HXR : Hid (HasRts V (.slice p1 l1 q1) R.rts ∧ HasLks V (.slice p2 l2 q2) R.lks) := ⟨HXR.out.1.keep hbV, HXR.out.2.keep hbV⟩
      clear hV hbV x0 x1 x2 x3 hb1
      generalize wr.heap.size = gv at rV ⊢
      obtain ⟨y0, y1, y2, y3, yf⟩ := cells4 rV
      by_cases hid : R.id = id
      · have hd : (R.id == id) = true := by rw [hid]; simp
        have HV : Hid (firstR L id = some R) := HF.out hid
        replace rz := RowAt.below rz hbn
        replace hB := below2 hB hbn
        obtain ⟨zz0, zz1, zz2, zz3, zzf⟩ := cells4 rz
        clear hid HF HX
        go_wp2_with fail
        (try simp only [Exit.inBlock, Exit.then])
        refine bodyPost_ret (v := .tuple #[.agg #[.int .i64 R.id, .bool R.up, .slice p1 l1 q1, .slice p2 l2 q2], .bool true]) ?_ rfl ⟨p1, l1, q1, p2, l2, q2, by rw [HV.out]; rfl, by rw [HV.out]; exact rts_apart HXR.out.1 rz (set4_gr _ _ _ _ _ _), by rw [HV.out]; exact lks_apart HXR.out.2 rz (set4_gr _ _ _ _ _ _), set4_bl' hB lez _ _ _ _⟩
        · rw [results_cell_tmp rfl]
          go_simp
      · have hd : (R.id == id) = false := beq_eq_false_iff_ne.2 hid
        have HN : Hid (∀ j (h : j < L.length), j < k + 1 → L[j].id ≠ id) := HX.out hid
        clear hid HF HX
        go_wp2_with fail
        go_roundw
        case rel => exact ⟨k + 1, by omega, by go_num, hbn, HN.out⟩
        case measure => simp [Go.RowKit.intOf]; omega
    · have hkn2 : k = ln := by omega
      subst hkn2
      have hkd : decide ((k : Int) < (k : Int)) = false := decide_eq_false (by omega)
      have HV : Hid (firstR L id = none) := by
        show firstR L id = none
        unfold firstR
        rw [List.find?_eq_none]
        intro x hx
        obtain ⟨j, hj, rfl⟩ := List.getElem_of_mem hx
        simp
        exact HI.out.2 j hj (by rw [HLN.out]; exact hj)
      replace rz := RowAt.below rz hbl
      replace hB := below2 hB hbl
      obtain ⟨zz0, zz1, zz2, zz3, zzf⟩ := cells4 rz
      clear HI
      go_wp2_with fail
      (try simp only [Exit.inBlock, Exit.then])
      refine bodyPost_ret (v := .tuple #[.agg #[.int .i64 0, .bool false, .slice none 0 0, .slice none 0 0], .bool false]) ?_ rfl ⟨none, 0, 0, none, 0, 0, by rw [HV.out]; rfl, by rw [HV.out]; exact Lk.hasRow_nil _ 6, by rw [HV.out]; exact Lk.hasRow_nil _ 2, set4_bl' hB lez _ _ _ _⟩
      · rw [results_cell_tmp rfl]
        go_simp
theorem rfind_any (n : NetT) (id : Int) (u v : Value) (w : World) (hS : HasSts w u n.seats) (hL : HasRos w v n.ros) :
    Calls Tryz.prog 36 #[.agg #[u, v], .int .i64 id] w (FdIs ((firstR n.ros id).getD zeroRo) (firstR n.ros id).isSome w) := by
  obtain ⟨so, sc, rfl, _⟩ := Ord.HasRow.slice hS
  obtain ⟨lo, lc, rfl, q1, q2⟩ := HasRos.slice hL
  exact rfind_walk so lo _ sc _ lc id n.seats n.ros w hS hL rfl (by omega)
theorem first_is {n : NetT} (h : okN n = true) (r : Int) : (isN n.ros r = true → firstR n.ros r = some (wasN n.ros r)) ∧ (isN n.ros r = false → firstR n.ros r = none) := by
  obtain ⟨_, _, p3, p4⟩ := pos_parts n.ros r (ros_up h)
  refine ⟨fun hi => ?_, fun hi => ?_⟩
  · obtain ⟨a1, a2⟩ := p3 hi
    unfold firstR
    cases hf : n.ros.find? (fun R => decide (R.id = r)) with
    | none => exact absurd (decide_eq_true a2) (List.find?_eq_none.1 hf _ a1)
    | some R =>
      have h1 := List.mem_of_find?_eq_some hf
      have h2 : R.id = r := by simpa using List.find?_some hf
      obtain ⟨j, hj, rfl⟩ := List.getElem_of_mem h1
      obtain ⟨k, hk, hke⟩ := List.getElem_of_mem a1
      rw [← hke] at a2 ⊢
      rcases Nat.lt_trichotomy j k with g | g | g
      · have := List.pairwise_iff_getElem.1 (ros_up h) j k hj hk g
        omega
      · subst g; rfl
      · have := List.pairwise_iff_getElem.1 (ros_up h) k j hk hj g
        omega
  · unfold firstR
    rw [List.find?_eq_none]
    intro x hx
    have := p4 hi x hx
    simpa using this
end Go.Proofs.YtkjhnefbcnnjlaaGreat.Nt
namespace Go.Proofs.YtkjhnefbcnnjlaaGreat.Nt
open Go.RowKit
open Go.Proofs.YtkjhnefbcnnjlaaGreat.Lk (HasLks HasRow HasLks.keep)
open Go.Proofs.YtkjhnefbcnnjlaaGreat.Tr (HasRts HasRts.keep)
open Go.Proofs.YtkjhnefbcnnjlaaGreat.Fib
open Go.Proofs.YtkjhnefbcnnjlaaGreat.Ord (St HasSts HasSts.keep HasEvs.keep)
open Go.Proofs.YtkjhnefbcnnjlaaGreat.Addr (RowAt below2 below_new RowAt.cell RowAt.below RowAt.new RowAt.alloc cells2 cells4)
def FdOf (w0 : World) (R : Ro) (b : Bool) (w : World) (e : Ending) (w' : World) : Prop :=
  ∃ o2 n2 m2 o3 n3 m3, e = .returned (.tuple #[.agg #[.int .i64 R.id, .bool R.up, .slice o2 n2 m2, .slice o3 n3 m3], .bool b]) ∧ RowsOf w0 ⟨R, .slice o2 n2 m2, .slice o3 n3 m3⟩ ∧ Below w.heap.size w w'
theorem HasRos.cell0 {W0 W : World} {o : Option Addr} {m cap : Nat} {L : List Ro} (h : HasRos W0 (.slice o m cap) L) (hb0 : Below W0.heap.size W0 W) (j : Nat) (hj : j < L.length) : ∃ b i o1 c1 o2 c2, o = some ⟨b, i, none⟩ ∧ b < W.heap.size ∧ W.cell? ⟨b, i + j * 4, none⟩ = some (.int .i64 L[j].id) ∧ W.cell? ⟨b, i + j * 4 + 1, none⟩ = some (.bool L[j].up) ∧ W.cell? ⟨b, i + j * 4 + 2, none⟩ = some (.slice o1 L[j].rts.length c1) ∧ W.cell? ⟨b, i + j * 4 + 3, none⟩ = some (.slice o2 L[j].lks.length c2) ∧ HasRts W0 (.slice o1 L[j].rts.length c1) L[j].rts ∧ HasLks W0 (.slice o2 L[j].lks.length c2) L[j].lks := by
  obtain ⟨b, i, o1, c1, o2, c2, e, hb, x0, x1, x2, x3, xr, xl⟩ := HasRos.cell h j hj
  exact ⟨b, i, o1, c1, o2, c2, e, Nat.lt_of_lt_of_le hb hb0.size, (hb0.cell hb).trans x0, (hb0.cell hb).trans x1, (hb0.cell hb).trans x2, (hb0.cell hb).trans x3, xr, xl⟩
set_option maxHeartbeats 8000000 in
set_option maxRecDepth 20000 in
theorem rfind_walk0 (so lo : Option Addr) (sn sc ln lc : Nat) (id : Int) (S : List St) (L : List Ro) (w : World) (hS : HasSts w (.slice so sn sc) S) (w0 : World) (hL : HasRos w0 (.slice lo ln lc) L) (hb0 : Below w0.heap.size w0 w) (HLN : Hid (ln = L.length)) (hlni : (ln : Int) ≤ 9223372036854775807) :
    Calls Tryz.prog 36 #[.agg #[.slice so sn sc, .slice lo ln lc], .int .i64 id] w (FdOf w0 ((firstR L id).getD zeroRo) (firstR L id).isSome w) := by
  have hB := Below.refl w.heap.size w
  go_enter Tryz.func36, Tryz.ntmps36
  obtain ⟨Y1, hY⟩ : ∃ Y, Y = ((w.alloc (.cells #[.slice so sn sc, .slice lo ln lc] 25)).alloc (.cells #[.int .i64 0, .bool false, .slice none 0 0, .slice none 0 0] 51)) := ⟨_, rfl⟩
  have hbY : Below w.heap.size w Y1 := by rw [hY]; exact below_new (below_new (Below.refl _ _) _) _
  have hle : w.heap.size ≤ w.heap.size := hB.size
  obtain ⟨gn, hgn⟩ : ∃ g, g = w.heap.size := ⟨_, rfl⟩
  have rn : RowAt Y1 gn [.slice so sn sc, .slice lo ln lc] 25 := by
    have h := (RowAt.new w [.slice so sn sc, .slice lo ln lc] 25).alloc (.cells #[.int .i64 0, .bool false, .slice none 0 0, .slice none 0 0] 51)
    rw [hgn, hY]; exact h
  have len : w.heap.size ≤ gn := by omega
  obtain ⟨gz, hgz⟩ : ∃ g, g = w.heap.size + 1 := ⟨_, rfl⟩
  have rz : RowAt Y1 gz [.int .i64 0, .bool false, .slice none 0 0, .slice none 0 0] 51 := by
    have h := RowAt.new (w.alloc (.cells #[.slice so sn sc, .slice lo ln lc] 25)) [.int .i64 0, .bool false, .slice none 0 0, .slice none 0 0] 51
    simp only [World.size_alloc] at h
    rw [hgz, hY]; exact h
  have lez : w.heap.size ≤ gz := by omega
  have nenz : gn ≠ gz := by omega
  replace hS := hS.keep hbY
  replace hb0 := below2 hb0 hbY
  replace hB := below2 hB hbY
  go_upto_region 1 with fail
  rw [← hY, ← hgz, ← hgn]
  clear hY hbY hle hgn hgz
  obtain ⟨n0, n1, nf⟩ := cells2 rn
  go_wp2_with fail
  clear n0 n1 nf
  go_loopw [11] (fun i wr => ∃ k : Nat, k ≤ ln ∧ i = .int .i64 k ∧ Hid (Below Y1.heap.size Y1 wr ∧ ∀ j (h : j < L.length), j < k → L[j].id ≠ id)) (fun i _ => ln - (Go.RowKit.intOf i).toNat)
  case atStart => exact ⟨0, by omega, rfl, Below.refl _ _, fun j h h2 => by omega⟩
  case round =>
    obtain ⟨k, hk, rfl, HI⟩ := hrel
    have hbl := HI.out.1
    by_cases hlt : k < ln
    · have hkz : k < L.length := by rw [← HLN.out]; exact hlt
      obtain ⟨b1, i1, p1, q1, p2, q2, rfl, hb1, x0, x1, x2, x3, xr, xl⟩ := HasRos.cell0 hL (below2 hb0 hbl) k hkz
      have HF : Hid (L[k].id = id → firstR L id = some L[k]) := fun he => by
        unfold firstR
        rw [List.find?_eq_some_iff_getElem]
        exact ⟨decide_eq_true he, k, hkz, rfl, fun j hj => by simp; exact HI.out.2 j (by omega) hj⟩
      have HX : Hid (L[k].id ≠ id → ∀ j (h : j < L.length), j < k + 1 → L[j].id ≠ id) := fun he j h h2 => by
        rcases Nat.lt_or_ge j k with h3 | h3
        · exact HI.out.2 j h h3
        · have : j = k := by omega
          subst this; exact he
      have HXR : Hid (HasRts w0 (.slice p1 L[k].rts.length q1) L[k].rts ∧ HasLks w0 (.slice p2 L[k].lks.length q2) L[k].lks) := ⟨xr, xl⟩
      obtain ⟨R, hR⟩ : ∃ R, R = L[k] := ⟨_, rfl⟩
      rw [← hR] at x0 x1 x2 x3 HF HX HXR
      clear hR xr xl HI
      generalize R.rts.length = l1 at *
      generalize R.lks.length = l2 at *
      have hki : (k : Int) < (ln : Int) := by omega
      obtain ⟨V, hV⟩ : ∃ V, V = wr.alloc (.cells #[.int .i64 R.id, .bool R.up, .slice p1 l1 q1, .slice p2 l2 q2] 51) := ⟨_, rfl⟩
      have hbV : Below wr.heap.size wr V := by rw [hV]; exact below_new (Below.refl _ _) _
      have rV : RowAt V wr.heap.size [.int .i64 R.id, .bool R.up, .slice p1 l1 q1, .slice p2 l2 q2] 51 := by rw [hV]; exact RowAt.new _ _ _
      go_upto_region 4 with fail
      rw [← hV]
      have hbn : Below Y1.heap.size Y1 V := below2 hbl hbV
      clear hV hbV x0 x1 x2 x3 hb1
      generalize wr.heap.size = gv at rV ⊢
      obtain ⟨y0, y1, y2, y3, yf⟩ := cells4 rV
      by_cases hid : R.id = id
      · have hd : (R.id == id) = true := by rw [hid]; simp
        have HV : Hid (firstR L id = some R) := HF.out hid
        replace rz := RowAt.below rz hbn
        replace hB := below2 hB hbn
        obtain ⟨zz0, zz1, zz2, zz3, zzf⟩ := cells4 rz
        clear hid HF HX
        go_wp2_with fail
        (try simp only [Exit.inBlock, Exit.then])
        refine bodyPost_ret (v := .tuple #[.agg #[.int .i64 R.id, .bool R.up, .slice p1 l1 q1, .slice p2 l2 q2], .bool true]) ?_ rfl ⟨p1, l1, q1, p2, l2, q2, by rw [HV.out]; rfl, by rw [HV.out]; exact HXR.out, set4_bl' hB lez _ _ _ _⟩
        · rw [results_cell_tmp rfl]
          go_simp
      · have hd : (R.id == id) = false := beq_eq_false_iff_ne.2 hid
        have HN : Hid (∀ j (h : j < L.length), j < k + 1 → L[j].id ≠ id) := HX.out hid
        clear hid HF HX
        go_wp2_with fail
        go_roundw
        case rel => exact ⟨k + 1, by omega, by go_num, hbn, HN.out⟩
        case measure => simp [Go.RowKit.intOf]; omega
    · have hkn2 : k = ln := by omega
      subst hkn2
      have hkd : decide ((k : Int) < (k : Int)) = false := decide_eq_false (by omega)
      have HV : Hid (firstR L id = none) := by
        show firstR L id = none
        unfold firstR
        rw [List.find?_eq_none]
        intro x hx
        obtain ⟨j, hj, rfl⟩ := List.getElem_of_mem hx
        simp
        exact HI.out.2 j hj (by rw [HLN.out]; exact hj)
      replace rz := RowAt.below rz hbl
      replace hB := below2 hB hbl
      obtain ⟨zz0, zz1, zz2, zz3, zzf⟩ := cells4 rz
      clear HI
      go_wp2_with fail
      (try simp only [Exit.inBlock, Exit.then])
      refine bodyPost_ret (v := .tuple #[.agg #[.int .i64 0, .bool false, .slice none 0 0, .slice none 0 0], .bool false]) ?_ rfl ⟨none, 0, 0, none, 0, 0, by rw [HV.out]; rfl, by rw [HV.out]; exact ⟨Lk.hasRow_nil _ 6, Lk.hasRow_nil _ 2⟩, set4_bl' hB lez _ _ _ _⟩
      · rw [results_cell_tmp rfl]
        go_simp
theorem rfind_of (n : NetT) (id : Int) (u v : Value) (w : World) (hS : HasSts w u n.seats) (w0 : World) (hL : HasRos w0 v n.ros) (hb0 : Below w0.heap.size w0 w) :
    Calls Tryz.prog 36 #[.agg #[u, v], .int .i64 id] w (FdOf w0 ((firstR n.ros id).getD zeroRo) (firstR n.ros id).isSome w) := by
  obtain ⟨so, sc, rfl, _⟩ := Ord.HasRow.slice hS
  obtain ⟨lo, lc, rfl, q1, q2⟩ := HasRos.slice hL
  exact rfind_walk0 so lo _ sc _ lc id n.seats n.ros w hS w0 hL hb0 rfl (by omega)
end Go.Proofs.YtkjhnefbcnnjlaaGreat.Nt
namespace Go.Proofs.YtkjhnefbcnnjlaaGreat.Nt
open Go.RowKit
open Go.Proofs.YtkjhnefbcnnjlaaGreat.Lk (HasRow HasLks.keep)
open Go.Proofs.YtkjhnefbcnnjlaaGreat.Tr (HasRts.keep)
open Go.Proofs.YtkjhnefbcnnjlaaGreat.Fib
open Go.Proofs.YtkjhnefbcnnjlaaGreat.Ord (St HasSts HasSts.keep)
open Go.Proofs.YtkjhnefbcnnjlaaGreat.Addr (RowAt below2 below_new bset RowAt.lt RowAt.cell RowAt.below RowAt.new RowAt.alloc RowAt.gkeep RowAt.set1 RowAt.far1 gset grefl)
theorem row_elder {W : World} {v : Value} {sz n g : Nat} {cs : List Value} (h : HasRow W v sz n cs) (hn : 0 < n) (hg : W.heap.size ≤ g) : v.ownBlock ≠ some g := by
  rcases h.2 with ⟨rfl, rfl⟩ | ⟨a, cap, rfl, g1, g2, g3, g4⟩
  · omega
  · intro e
    have := (g3 hn).2
    simp only [Value.ownBlock, Option.some.injEq] at e
    omega
/-- rows of an elder world lie in no younger block -/
theorem RowsOf.elder {W : World} {m : RoM} {g : Nat} (h : RowsOf W m) (hg : W.heap.size ≤ g) : Off g m := ⟨fun hp => row_elder h.1 hp hg, fun hp => row_elder h.2 hp hg⟩
/-- a round of happens: append of a router whose rows lie elsewhere, then the store -/
theorem CpI.put {w V w5 : World} {gx gz : Nat} {o4 o6 : Option Addr} {n4 c4 n6 c6 : Nat} {S : List St} {L : List Ro} (h : CpI w V gx gz (.slice o4 n4 c4) (.slice o6 n6 c6) S L) (hs : 0 < S.length → ∀ b, (Value.slice o4 n4 c4).ownBlock = some b → b < gx) (hz : w.heap.size ≤ gx ∧ gz < gx) (R : Ro) (x y : Value) (hb : Below V.heap.size V w5) (hr : RowsOf w5 ⟨R, x, y⟩) (ho : ∀ g, gx < g → g < V.heap.size → Off g ⟨R, x, y⟩) (hl : L.length * 64 + 64 ≤ 140737488355328) :
    ∃ o' c' W', (∀ ty, (Builtin.append_ #[23, 23] ty #[.slice o6 n6 c6, .slice (some ⟨w5.heap.size, 0, none⟩) 1 1]).run Tryz.prog (w5.alloc (.cells #[.int .i64 R.id, .bool R.up, x, y] 51)) = .ok (.slice o' (L.length + 1) c') W') ∧
      RowAt W' gx [.slice o4 n4 c4, .slice o6 n6 c6] 25 ∧ CpI w (W'.setCell ⟨gx, 1, none⟩ (.slice o' (L.length + 1) c')) gx gz (.slice o4 n4 c4) (.slice o' (L.length + 1) c') S (L ++ [R]) := by
  obtain ⟨V2, hV2⟩ : ∃ V2, V2 = w5.alloc (.cells #[.int .i64 R.id, .bool R.up, x, y] 51) := ⟨_, rfl⟩
  have hb2 : Below w5.heap.size w5 V2 := by rw [hV2]; exact below_new (Below.refl _ _) _
  have rV : RowAt V2 w5.heap.size [.int .i64 R.id, .bool R.up, x, y] 51 := by rw [hV2]; exact RowAt.new _ _ _
  have hbV : Below V.heap.size V V2 := below2 hb hb2
  have hG := h.grow.below hbV
  have hgu : ∀ g, (Value.slice o6 n6 c6).ownBlock = some g → g < V.heap.size := by
    obtain ⟨M, _, h1, _⟩ := h.grow.ex
    exact fun g e => (h1.lt g e).2
  have hBs : w.heap.size ≤ V2.heap.size := Nat.le_trans h.bel.size hbV.size
  obtain ⟨u', W', hrun, k1, k2, k3⟩ := hG.add R x y ⟨w5.heap.size, 0, none⟩ 1 (fun j v hj => by
      have hj4 : j < 4 := by have := (List.getElem?_eq_some_iff.1 hj).1; simpa [roC] using this
      rw [Lk.addr_add, Nat.zero_add]
      exact (rV.cell j).trans hj) (hr.keep hb2) (fun g e => ho g (h.new g e) (hgu g e)) hl hBs
  obtain ⟨o', c', e'⟩ := k1.slice
  rw [List.length_append, List.length_singleton] at e'
  subst e'
  have hgx : gx < V2.heap.size := Nat.lt_of_lt_of_le h.rx.lt hbV.size
  have rx : RowAt W' gx [.slice o4 n4 c4, .slice o6 n6 c6] 25 := (h.rx.below hbV).gkeep k2 (fun e => by have := h.new gx e.symm; omega)
  have rz : RowAt W' gz [.slice none 0 0, .slice none 0 0] 25 := (h.rz.below hbV).gkeep k2 (fun e => by have := h.new gz e.symm; omega)
  have hnew : NewV (gx + 1) (.slice o' (L.length + 1) c') := fun b e => by
    rcases k3 with k3 | k3
    · exact h.new b (k3 ▸ e)
    · rw [k3] at e; have := Option.some.inj e; omega
  have hbel : Below w.heap.size w W' := (below2 h.bel hbV).grown k2 hBs (fun k e => by have := h.new k e; omega)
  have hst : HasSts W' (.slice o4 n4 c4) S := sts_by (h.sts.keep hbV) (fun g e hp q => by have := hs hp g q; have := h.new g e; omega) k2
  have hg : W'.grownBy (W'.setCell ⟨gx, 1, none⟩ (.slice o' (L.length + 1) c')) (some gx) := gset (grefl _ _)
  refine ⟨o', c', W', fun ty => by rw [← hV2]; exact hrun ty, rx, bset hbel (by omega), rx.set1 1 _, rz.far1 (by omega) _ _, sts_off hst rx hg, ?_, hnew⟩
  exact k1.far hg (.inr fun e => by have := hnew gx e; omega) (fun m hm => rowsOf_off hm rx hg)
end Go.Proofs.YtkjhnefbcnnjlaaGreat.Nt
