/- The document's Copy of a router. -/
import Derived.Test.YtbglbegljkgknaaGreatNq30
import Derived.Test.YtbglbegljkgknaaGreatNs01
import Derived.Test.YtbglbegljkgknaaGreatNs05
import Derived.Test.YtbglbegljkgknaaGreatNq13
import Derived.Test.YtbglbegljkgknaaGreatNq12
import Derived.Test.YtbglbegljkgknaaGreatNq11
set_option linter.unusedVariables false
namespace Go.Proofs.YtbglbegljkgknaaGreat.Nt
open Go.RowKit
open Go.Proofs.YtbglbegljkgknaaGreat.Lk (HasLks FitL HasLks.keep)
open Go.Proofs.YtbglbegljkgknaaGreat.Tr (Rt HasRts HasRts.keep FitR)
open Go.Proofs.YtbglbegljkgknaaGreat.Fib
open Go.Proofs.YtbglbegljkgknaaGreat.Ord (St HasSts okL HasSts.keep HasSts.cell)
open Go.Proofs.YtbglbegljkgknaaGreat.Addr (RowAt below2 below_drew below_new bset RowAt.lt RowAt.cell RowAt.frozen RowAt.below RowAt.drew RowAt.new RowAt.alloc cells2 cells4 Bl bl_ne wp_region_bl bl_call)
set_option maxHeartbeats 2000000 in
set_option maxRecDepth 20000 in
theorem rmany_any (L : List Ro) (v : Value) (w : World) (h : HasRos w v L) (hl : L.length ≤ 1000) (hs : ∀ R ∈ L, manyR R ≤ 1000) :
    Calls Tryz.prog 34 #[v] w fun e w' => e = .returned (.int .i64 (sizeN L : Int)) ∧ Below w.heap.size w w' := by
  obtain ⟨o, c, rfl, hc1, hc2⟩ := HasRos.slice h
  have HR : Hid (∀ wr : World, Below w.heap.size w wr → HasRos wr (.slice o L.length c) L) := fun wr hb => h.keep hb
  obtain ⟨n, hn⟩ : ∃ n, n = L.length := ⟨_, rfl⟩
  have HN : Hid (n = L.length) := hn
  have HS : Hid (∀ R ∈ L, manyR R ≤ 1000) := hs
  rw [← hn] at HR hc1 hl ⊢
  have hni : (n : Int) ≤ 1000 := by omega
  clear h hn hs
  go_enter Tryz.func34, Tryz.ntmps34
  go_wp2_with fail
  go_loopw [3, 8] (fun q i wr => ∃ k : Nat, k ≤ n ∧ i = .int .i64 k ∧ (∃ m : Nat, q = .int .i64 m ∧ Hid (m = sizeN (L.take k))) ∧ Below w.heap.size w wr) (fun _ i _ => n - (Go.RowKit.intOf i).toNat)
  case atStart => exact ⟨0, by omega, rfl, ⟨0, rfl, by show 0 = _; rw [List.take_zero]; rfl⟩, Below.refl _ _⟩
  case round =>
    obtain ⟨k, hk, rfl, ⟨m, rfl, HM⟩, hB⟩ := hrel
    by_cases hlt : k < n
    · have hkz : k < L.length := by rw [← HN.out]; exact hlt
      obtain ⟨b1, i1, o1, c1, o2, c2, rfl, hb1, a0, a1, a2, a3, _, _⟩ := HasRos.cell (HR.out _ hB) k hkz
      have hm1 : m ≤ 1000000 := by
        have h1 := sizeN_le (L.take k) 1000 (fun R hR => HS.out R (List.mem_of_mem_take hR))
        rw [List.length_take] at h1
        have h2 : min k L.length * 1000 ≤ 1000 * 1000 := Nat.mul_le_mul_right _ (by omega)
        rw [← HM.out] at h1
        omega
      have hmk : L[k].rts.length + L[k].lks.length ≤ 1000 := HS.out _ (List.getElem_mem hkz)
      have HM2 : Hid (∀ x y, x = L[k].rts.length → y = L[k].lks.length → m + (x + y) = sizeN (L.take (k + 1))) := fun x y e1 e2 => by
        rw [sizeN_snoc L k hkz, ← HM.out, e1, e2]
      obtain ⟨x, hx⟩ : ∃ x, x = L[k].rts.length := ⟨_, rfl⟩
      obtain ⟨y, hy⟩ : ∃ y, y = L[k].lks.length := ⟨_, rfl⟩
      have HM3 : Hid (m + (x + y) = sizeN (L.take (k + 1))) := HM2.out x y hx hy
      rw [← hx] at a2 hmk
      rw [← hy] at a3 hmk
      clear hx hy HM2 HM
      generalize L[k].id = id at a0
      generalize L[k].up = up at a1
      have hki : (k : Int) < (n : Int) := by omega
      have hmi : (m : Int) ≤ 1000000 := by omega
      have hxy : (x : Int) + (y : Int) ≤ 1000 := by omega
      obtain ⟨X, hX⟩ : ∃ X, X = wr.alloc (.cells #[.int .i64 id, .bool up, .slice o1 x c1, .slice o2 y c2] 51) := ⟨_, rfl⟩
      have hbX : Below wr.heap.size wr X := by rw [hX]; exact below_new (Below.refl _ _) _
      have r0 : RowAt X wr.heap.size [.int .i64 id, .bool up, .slice o1 x c1, .slice o2 y c2] 51 := by rw [hX]; exact RowAt.new _ _ _
      go_upto_region 5 with fail
      rw [← hX]
      have hBX := below2 hB hbX
      clear hX hbX a0 a1 a2 a3 hb1
      generalize wr.heap.size = gs at r0 ⊢
      obtain ⟨y0, y1, y2, y3, yf⟩ := cells4 r0
      go_wp2_with fail
      go_roundw
      case rel => exact ⟨k + 1, by omega, by go_num, ⟨m + (x + y), by go_num, HM3⟩, hBX⟩
      case measure => simp [Go.RowKit.intOf]; omega
    · have hkn2 : k = n := by omega
      subst hkn2
      have hkd : decide ((k : Int) < (k : Int)) = false := decide_eq_false (by omega)
      have HF : Hid (m = sizeN L) := by show m = _; rw [HM.out, HN.out, List.take_length]
      clear HM
      go_wp2_with fail
      go_ret
      exact ⟨by rw [HF.out]; rfl, hB⟩
set_option maxHeartbeats 8000000 in
set_option maxRecDepth 20000 in
theorem rcheck_walk (S : List St) (L : List Ro) (so lo : Option Addr) (sn ln sc lc : Nat) (w : World) (hs : HasSts w (.slice so sn sc) S) (hl : HasRos w (.slice lo ln lc) L) (en : Hid (sn = S.length)) (el : Hid (ln = L.length)) (hf : ∀ R ∈ L, FitRo R)
    (co : ∀ W, HasSts W (.slice so sn sc) S → Calls Tryz.prog 32 #[.slice so sn sc] W fun e w' => e = .returned (.int .i64 (if okL S then 0 else 2)) ∧ Below W.heap.size W w') :
    Calls Tryz.prog 16 #[.agg #[.slice so sn sc, .slice lo ln lc]] w fun e w' => e = .returned (.int .i64 (checkN ⟨S, L⟩)) ∧ Below w.heap.size w w' := by
  have HC : Hid (checkN ⟨S, L⟩ = if okL S && (decide (L.length = S.length) && (eachR L S && decide (sizeN L ≤ 1024))) then 0 else 2) := rfl
  generalize checkN ⟨S, L⟩ = R at HC ⊢
  have HF : Hid (∀ R ∈ L, FitRo R) := hf
  have HOL : Hid (okL S = true → S.length ≤ 64) := fun h => by unfold okL at h; simp only [Bool.and_eq_true, decide_eq_true_eq] at h; exact h.1
  clear hf
  obtain ⟨X, hX⟩ : ∃ X, X = w.alloc (.cells #[.slice so sn sc, .slice lo ln lc] 25) := ⟨_, rfl⟩
  have hB : Below w.heap.size w X := by rw [hX]; exact below_new (Below.refl _ _) _
  have r0 : RowAt X w.heap.size [.slice so sn sc, .slice lo ln lc] 25 := by rw [hX]; exact RowAt.new _ _ _
  replace hs := hs.keep hB
  replace hl := hl.keep hB
  go_enter Tryz.func16, Tryz.ntmps16
  go_upto_region 1 with fail
  rw [← hX]
  clear hX
  generalize w.heap.size = gn at r0 ⊢
  obtain ⟨x0, x1, xf⟩ := cells2 r0
  go_wp2_with fail
  go_at_call 32; refine (co _ hs).mono ?_; rintro e w1 ⟨rfl, hb1⟩
  replace hB := below2 hB hb1
  replace r0 := RowAt.below r0 hb1
  replace hs := hs.keep hb1
  replace hl := hl.keep hb1
  clear x0 x1 xf hb1 co
  obtain ⟨x0, x1, xf⟩ := cells2 r0
  cases hok : okL S
  · have HV : Hid (R = 2) := by show R = 2; rw [HC.out, hok]; rfl
    clear HC
    simp only [Bool.false_eq_true, if_false]
    go_wp2_with fail
    go_ret
    exact ⟨by first | (rw [HV.out]; rfl) | rfl, hB⟩
  simp only [if_true]
  have h64 := HOL.out hok
  by_cases hlen : L.length = S.length
  rotate_left
  · have HV : Hid (R = 2) := by show R = 2; rw [HC.out, hok, decide_eq_false hlen]; rfl
    have hne : ((ln : Int) != (sn : Int)) = true := by rw [bne_iff_ne, en.out, el.out]; omega
    have hne2 : ¬ ln = sn := by rw [en.out, el.out]; exact hlen
    clear HC
    go_wp2_with fail
    go_ret
    exact ⟨by first | (rw [HV.out]; rfl) | rfl, hB⟩
  have hls : ln = sn := by rw [en.out, el.out]; exact hlen
  subst hls
  have hne : ((ln : Int) != (ln : Int)) = false := by simp
  have hn64 : ln ≤ 64 := by rw [en.out]; exact h64
  have hni : (ln : Int) ≤ 64 := by omega
  have HE : Hid (R = if eachR L S && decide (sizeN L ≤ 1024) then 0 else 2) := by show R = _; rw [HC.out, hok, decide_eq_true hlen]; rfl
  have HEI : Hid (eachR L S = true ↔ ∀ j (h1 : j < L.length) (h2 : j < S.length), fitsR L[j] S[j] = true) := eachR_iff L S hlen
  clear HC HOL hok h64
  have HLEN : Hid (L.length = S.length) := hlen
  clear hlen
  go_wp2_with fail
  clear x0 x1 xf
  go_loopw [21] (fun i wr => ∃ k : Nat, k ≤ ln ∧ i = .int .i64 k ∧ Hid (Below w1.heap.size w1 wr ∧ ∀ j (h1 : j < L.length) (h2 : j < S.length), j < k → fitsR L[j] S[j] = true)) (fun i _ => ln - (Go.RowKit.intOf i).toNat)
  case atStart => exact ⟨0, by omega, rfl, Below.refl _ _, fun j h1 h2 h3 => by omega⟩
  case round =>
    obtain ⟨k, hk, rfl, HI⟩ := hrel
    have hbl := HI.out.1
    by_cases hlt : k < ln
    · have hkz : k < L.length := by rw [← el.out]; exact hlt
      have hks : k < S.length := by rw [← en.out]; exact hlt
      obtain ⟨b1, i1, o1, c1, o2, c2, rfl, hb1, a0, a1, a2, a3, ar, ak⟩ := HasRos.cell (hl.keep hbl) k hkz
      obtain ⟨b2, i2, rfl, hb2, s0, s1, s2, s3⟩ := HasSts.cell (hs.keep hbl) k hks
      have cf0 : ∀ W, HasRts W (.slice o1 L[k].rts.length c1) L[k].rts → HasLks W (.slice o2 L[k].lks.length c2) L[k].lks → Calls Tryz.prog 33 #[.agg #[.int .i64 L[k].id, .bool L[k].up, .slice o1 L[k].rts.length c1, .slice o2 L[k].lks.length c2]] W fun e w' => e = .returned (.int .i64 (if okRo L[k] then 0 else 2)) ∧ Below W.heap.size W w' := fun W h1 h2 => Fib.rcheck_any L[k] _ _ W h1 h2 (HF.out _ (List.getElem_mem hkz)).rts
      have HFT : Hid (fitsR L[k] S[k] = (okRo L[k] && (decide (L[k].id = S[k].router) && decide (L[k].up = S[k].up)))) := rfl
      have HBAD : Hid (fitsR L[k] S[k] = false → R = 2) := fun h => by
        rw [HE.out]
        have : eachR L S = false := by
          cases hx : eachR L S with
          | false => rfl
          | true => rw [HEI.out.1 hx k hkz hks] at h; cases h
        rw [this]; rfl
      have HNX : Hid (fitsR L[k] S[k] = true → ∀ j (h1 : j < L.length) (h2 : j < S.length), j < k + 1 → fitsR L[j] S[j] = true) := fun h j h1 h2 h3 => by
        rcases Nat.lt_or_ge j k with h4 | h4
        · exact HI.out.2 j h1 h2 h4
        · have : j = k := by omega
          subst this; exact h
      generalize fitsR L[k] S[k] = F at HFT HBAD HNX
      generalize L[k].rts = rts at *
      generalize L[k].lks = lks at *
      generalize okRo L[k] = kr at cf0 HFT
      generalize L[k].id = id at *
      generalize L[k].up = up at *
      generalize S[k].router = sr at *
      generalize S[k].up = su at *
      generalize (S[k].seq : Int) = sq at *
      generalize S[k].time = stt at *
      generalize rts.length = n1 at *
      generalize lks.length = n2 at *
      have hki : (k : Int) < (ln : Int) := by omega
      obtain ⟨Y, hY⟩ : ∃ Y, Y = wr.alloc (.cells #[.int .i64 id, .bool up, .slice o1 n1 c1, .slice o2 n2 c2] 51) := ⟨_, rfl⟩
      have hbY : Below wr.heap.size wr Y := by rw [hY]; exact below_new (Below.refl _ _) _
      have rY : RowAt Y wr.heap.size [.int .i64 id, .bool up, .slice o1 n1 c1, .slice o2 n2 c2] 51 := by rw [hY]; exact RowAt.new _ _ _
      go_upto_region 6 with fail
      rw [← hY]
      have hbn : Below w1.heap.size w1 Y := below2 hbl hbY
      have rn := RowAt.below r0 hbn
      have u0 : ∀ p : Bl Y, p.W.cell? ⟨b2, i2 + k * 4, none⟩ = some (.int .i64 sr) := fun p => ((hbY.trans (p.h.mono hbY.size)).cell (p := ⟨b2, i2 + k * 4, none⟩) hb2).trans s0
      have u3 : ∀ p : Bl Y, p.W.cell? ⟨b2, i2 + k * 4 + 3, none⟩ = some (.bool su) := fun p => ((hbY.trans (p.h.mono hbY.size)).cell (p := ⟨b2, i2 + k * 4 + 3, none⟩) hb2).trans s3
      have cf : ∀ p : Bl Y, Calls Tryz.prog 33 #[.agg #[.int .i64 id, .bool up, .slice o1 n1 c1, .slice o2 n2 c2]] p.W fun e w' => e = .returned (.int .i64 (if kr then 0 else 2)) ∧ Below p.W.heap.size p.W w' := fun p => cf0 p.W (ar.keep (hbY.trans (p.h.mono hbY.size))) (ak.keep (hbY.trans (p.h.mono hbY.size)))
      clear hY a0 a1 a2 a3 s0 s1 s2 s3 ar ak cf0 hb1 hb2 hbY
      generalize wr.heap.size = gs at rY ⊢
      have v0 : ∀ p : Bl Y, p.W.cell? ⟨gs, 0, none⟩ = some (.int .i64 id) := fun p => (rY.below p.h).cell 0
      have v1 : ∀ p : Bl Y, p.W.cell? ⟨gs, 1, none⟩ = some (.bool up) := fun p => (rY.below p.h).cell 1
      have v2 : ∀ p : Bl Y, p.W.cell? ⟨gs, 2, none⟩ = some (.slice o1 n1 c1) := fun p => (rY.below p.h).cell 2
      have v3 : ∀ p : Bl Y, p.W.cell? ⟨gs, 3, none⟩ = some (.slice o2 n2 c2) := fun p => (rY.below p.h).cell 3
      have t0 : ∀ p : Bl Y, p.W.cell? ⟨gn, 0, none⟩ = some (.slice (some ⟨b2, i2, none⟩) ln sc) := fun p => (rn.below p.h).cell 0
      haveI := bl_ne Y
      cases kr
      · have HV : Hid (R = 2) := HBAD.out (by rw [HFT.out]; rfl)
        simp only [Bool.false_eq_true, if_false] at cf
        clear HBAD HNX HFT
        refine wp_region_bl (by kernel_rfl) (by kernel_rfl) ?_
        repeat (go_big_quiet_step (first | (go_at_call 33; with_reducible exact bl_call (cf _))))
        refine wpQuiet_nil ?_
        intro wq hw'
        obtain ⟨⟨wz, hq⟩, hw2⟩ := hw'
        subst hw2
        have hW := below2 hB (below2 hbn hq)
        go_wp2_with fail
        go_ret
        exact ⟨by first | (rw [HV.out]; rfl) | rfl, hW⟩
      simp only [if_true] at cf
      by_cases hid : id = sr
      rotate_left
      · have HV : Hid (R = 2) := HBAD.out (by rw [HFT.out, decide_eq_false hid]; rfl)
        have hd : (id != sr) = true := by rw [bne_iff_ne]; exact hid
        clear HBAD HNX HFT
        refine wp_region_bl (by kernel_rfl) (by kernel_rfl) ?_
        repeat (go_big_quiet_step (first | (go_at_call 33; with_reducible exact bl_call (cf _))))
        refine wpQuiet_nil ?_
        intro wq hw'
        obtain ⟨⟨wz, hq⟩, hw2⟩ := hw'
        subst hw2
        have hW := below2 hB (below2 hbn hq)
        go_wp2_with fail
        go_ret
        exact ⟨by first | (rw [HV.out]; rfl) | rfl, hW⟩
      subst hid
      have hd : (id != id) = false := by simp
      cases hud : decide (up = su)
      · have HV : Hid (R = 2) := HBAD.out (by rw [HFT.out, hud, decide_eq_true rfl]; rfl)
        have hsu : su = !up := by
          have := of_decide_eq_false hud
          cases up <;> cases su <;> simp_all
        subst hsu
        clear HBAD HNX HFT hud
        cases up
        all_goals
          simp only [Bool.not_false, Bool.not_true] at u3
          refine wp_region_bl (by kernel_rfl) (by kernel_rfl) ?_
          repeat (go_big_quiet_step (first | (go_at_call 33; with_reducible exact bl_call (cf _))))
          refine wpQuiet_nil ?_
          intro wq hw'
          obtain ⟨⟨wz, hq⟩, hw2⟩ := hw'
          subst hw2
          have hW := below2 hB (below2 hbn hq)
          go_wp2_with fail
          go_ret
          exact ⟨by first | (rw [HV.out]; rfl) | rfl, hW⟩
      · have HG : Hid (∀ j (h1 : j < L.length) (h2 : j < S.length), j < k + 1 → fitsR L[j] S[j] = true) := HNX.out (by rw [HFT.out, hud, decide_eq_true rfl]; rfl)
        have hus : up = su := of_decide_eq_true hud
        subst hus
        have hd2 : (up != up) = false := by simp
        clear HBAD HNX HFT hud
        refine wp_region_bl (by kernel_rfl) (by kernel_rfl) ?_
        repeat (go_big_quiet_step (first | (go_at_call 33; with_reducible exact bl_call (cf _))))
        refine wpQuiet_nil ?_
        intro wq hw'
        obtain ⟨⟨wz, hq⟩, hw2⟩ := hw'
        subst hw2
        have hW := below2 hbn hq
        go_wp2_with fail
        go_roundw
        case rel => exact ⟨k + 1, by omega, by go_num, hW, HG.out⟩
        case measure => simp [Go.RowKit.intOf]; omega
    · have hkn2 : k = ln := by omega
      subst hkn2
      have hkd : decide ((k : Int) < (k : Int)) = false := decide_eq_false (by omega)
      have hall : ∀ j (h1 : j < L.length) (h2 : j < S.length), fitsR L[j] S[j] = true := fun j h1 h2 => HI.out.2 j h1 h2 (by rw [el.out]; exact h1)
      have HT : Hid (R = if decide (sizeN L ≤ 1024) then 0 else 2) := by show R = _; rw [HE.out, HEI.out.2 hall]; rfl
      have cz := rmany_any L _ wr (hl.keep hbl) (by have := el.out; omega) (fun Q hQ => by
        obtain ⟨j, hj, rfl⟩ := List.getElem_of_mem hQ
        exact (okRo_many (fitsR_ok (hall j hj (by rw [← HLEN.out]; exact hj))).1).1)
      have hW := below2 hB hbl
      obtain ⟨x0, x1, xf⟩ := cells2 (RowAt.below r0 hbl)
      have HSZ : Hid (sizeN L ≤ 100000000) := by
        have := sizeN_le L 1000 (fun Q hQ => by
          obtain ⟨j, hj, rfl⟩ := List.getElem_of_mem hQ
          exact (okRo_many (fitsR_ok (hall j hj (by rw [← HLEN.out]; exact hj))).1).1)
        have h9 : L.length ≤ 64 := by rw [← el.out]; exact hn64
        have := Nat.mul_le_mul_right 1000 h9
        show _ ≤ _
        omega
      clear HI HE HEI hall hbl
      generalize sizeN L = z at *
      go_wp2_with fail
      go_at_call 34; refine cz.mono ?_; rintro e w5 ⟨rfl, hb5⟩
      replace hW := below2 hW hb5
      cases hz : decide (z ≤ 1024)
      · have HV : Hid (R = 2) := by show R = 2; rw [HT.out, hz]; rfl
        have q1 : decide ((1024 : Int) < (z : Int)) = true := decide_eq_true (by have := of_decide_eq_false hz; omega)
        have q2 : decide (1024 < z) = true := decide_eq_true (by have := of_decide_eq_false hz; omega)
        clear HT hz
        go_wp2_with fail
        go_ret
        exact ⟨by first | (rw [HV.out]; rfl) | rfl, hW⟩
      · have HV : Hid (R = 0) := by show R = 0; rw [HT.out, hz]; rfl
        have q1 : decide ((1024 : Int) < (z : Int)) = false := decide_eq_false (by have := of_decide_eq_true hz; omega)
        have q2 : decide (1024 < z) = false := decide_eq_false (by have := of_decide_eq_true hz; omega)
        clear HT hz
        go_wp2_with fail
        go_ret
        exact ⟨by first | (rw [HV.out]; rfl) | rfl, hW⟩
theorem rcheck_any (n : NetT) (u v : Value) (w : World) (hs : HasSts w u n.seats) (hl : HasRos w v n.ros) (hf : ∀ R ∈ n.ros, FitRo R) :
    Calls Tryz.prog 16 #[.agg #[u, v]] w fun e w' => e = .returned (.int .i64 (checkN n)) ∧ Below w.heap.size w w' := by
  obtain ⟨so, sc, rfl, _⟩ := Ord.HasRow.slice hs
  obtain ⟨lo, lc, rfl, _⟩ := HasRos.slice hl
  exact rcheck_walk n.seats n.ros so lo _ _ sc lc w hs hl rfl rfl hf (fun W h => Ord.rcheck_any n.seats _ W h)
end Go.Proofs.YtbglbegljkgknaaGreat.Nt
namespace Go.Proofs.YtbglbegljkgknaaGreat.Fib
open Go.RowKit Go.Shelf
open Go.Proofs.YtbglbegljkgknaaGreat.Addr (Pf hiN loN rightB RowAt below2 below_drew below_new RowAt.lt RowAt.cell RowAt.frozen RowAt.below RowAt.drew RowAt.new RowAt.alloc RowAt.set1 RowAt.far1 cells4 cells2 gset grefl bset gbelow gdrew RowAt.gkeep results_cell)
open Go.Proofs.YtbglbegljkgknaaGreat.Msg (Ev Ac okE FitE evV evC FitA)
open Go.Proofs.YtbglbegljkgknaaGreat.Lk (Lk HasLks HasLks.keep FitL peerL okL)
open Go.Proofs.YtbglbegljkgknaaGreat.Tr (Rt HasRts HasRts.keep FitR FitP okT)
attribute [-go_sem] Builtin.append_
theorem copy_row {e tS sz bytes : Nat} {z : Value} (hi : (Tryz.prog.info? e).map (fun i => (i.zero, i.size, i.bytes)) = some (some z, sz, bytes)) (hu : Tryz.prog.underlying tS = some (.slice e)) (hz : z.cells.size = sz) (hsz : 0 < sz) {W : World} {u : Value} {n : Nat} {cs : List Value} (h : Lk.HasRow W u sz n cs) (h1 : ∀ x ∈ cs, x.oneCell' = true) (hb : n * bytes ≤ 140737488355328) (hn : n ≤ 9223372036854775807) :
    ∃ o c w3, (∀ ty, (Builtin.append_ #[tS, tS] ty #[.slice (some ⟨W.heap.size, 0, none⟩) 0 0, u]).run Tryz.prog (W.alloc (.cells #[] e)) = .ok (.slice o n c) w3) ∧ Lk.HasRow w3 (.slice o n c) sz n cs ∧ Below W.heap.size W w3 := by
  have hk := Lk.HasRow.keep h (below_new (Below.refl _ W) (.cells #[] e))
  obtain ⟨v', w3, hrun, h2, h3⟩ := Lk.append_row hi hu hz hsz (Lk.empty_own W e sz) hk h1 (by rw [Nat.zero_add]; exact hb) (by omega) (by simp)
  rw [Nat.zero_add, List.nil_append] at h2
  have hh := Lk.hasRow_own h2
  obtain ⟨o, c, rfl, _⟩ := Lk.HasRow.slice hh
  exact ⟨o, c, w3, hrun, hh, ((Below.refl _ W).alloc (Nat.le_refl _) _).grown h3 (by simp) (fun k e => by simp [Value.ownBlock] at e; omega)⟩
set_option maxHeartbeats 4000000 in
set_option maxRecDepth 20000 in
theorem copy_any (R : Ro) (a b : Value) (w : World) (ha : HasRts w a R.rts) (hb : HasLks w b R.lks) (h1 : R.rts.length * 48 ≤ 140737488355328) (h2 : R.lks.length * 16 ≤ 140737488355328) :
    Calls Tryz.prog 24 #[.agg #[.int .i64 R.id, .bool R.up, a, b]] w fun e w' => ∃ o2 n2 m2 o3 n3 m3, e = .returned (.agg #[.int .i64 R.id, .bool R.up, .slice o2 n2 m2, .slice o3 n3 m3]) ∧ HasRts w' (.slice o2 n2 m2) R.rts ∧ HasLks w' (.slice o3 n3 m3) R.lks ∧ Below w.heap.size w w' := by
  obtain ⟨o2, m2, rfl, hm2⟩ := Lk.HasRow.slice ha
  obtain ⟨o3, m3, rfl, hm3⟩ := Lk.HasRow.slice hb
  have C1 : Hid (∀ W, HasRts W (.slice o2 R.rts.length m2) R.rts → ∃ o c w3, (∀ ty, (Builtin.append_ #[48, 48] ty #[.slice (some ⟨W.heap.size, 0, none⟩) 0 0, .slice o2 R.rts.length m2]).run Tryz.prog (W.alloc (.cells #[] 105)) = .ok (.slice o R.rts.length c) w3) ∧ HasRts w3 (.slice o R.rts.length c) R.rts ∧ Below W.heap.size W w3) := fun W h => copy_row Tr.info_rt Tryz.underlying48 rfl (by decide) h (Tr.one_routes _) h1 (by omega)
  have C2 : Hid (∀ W, HasLks W (.slice o3 R.lks.length m3) R.lks → ∃ o c w3, (∀ ty, (Builtin.append_ #[49, 49] ty #[.slice (some ⟨W.heap.size, 0, none⟩) 0 0, .slice o3 R.lks.length m3]).run Tryz.prog (W.alloc (.cells #[] 108)) = .ok (.slice o R.lks.length c) w3) ∧ HasLks w3 (.slice o R.lks.length c) R.lks ∧ Below W.heap.size W w3) := fun W h => copy_row Lk.info_lk Tryz.underlying49 rfl (by decide) h (Lk.one_links _) h2 (by omega)
  obtain ⟨id, up, rts, lks⟩ := R
  simp only at ha hb C1 C2 ⊢
  clear h1 h2 hm2 hm3
  generalize rts.length = n2 at *
  generalize lks.length = n3 at *
  obtain ⟨X, hX⟩ : ∃ X, X = (w.alloc (.cells #[.int .i64 id, .bool up, .slice o2 n2 m2, .slice o3 n3 m3] 51)).alloc (.cells #[.int .i64 0, .bool false, .slice none 0 0, .slice none 0 0] 51) := ⟨_, rfl⟩
  have hB : Below w.heap.size w X := by rw [hX]; exact below_new (below_new (Below.refl _ _) _) _
  have r0 : RowAt X w.heap.size [.int .i64 id, .bool up, .slice o2 n2 m2, .slice o3 n3 m3] 51 := by rw [hX]; exact (RowAt.new _ _ _).alloc _
  have r1 : RowAt X (w.heap.size + 1) [.int .i64 0, .bool false, .slice none 0 0, .slice none 0 0] 51 := by rw [hX, ← World.size_alloc w (.cells #[.int .i64 id, .bool up, .slice o2 n2 m2, .slice o3 n3 m3] 51)]; exact RowAt.new _ _ _
  replace ha := ha.keep hB
  replace hb := hb.keep hB
  obtain ⟨o4, c4, w3, hrun, hh4, hb3⟩ := C1.out X ha
  have R0 := RowAt.below r0 hb3
  have R1 := RowAt.below r1 hb3
  have hlt := r0.lt
  obtain ⟨Y, hY⟩ : ∃ Y, Y = w3.setCell ⟨w.heap.size, 2, none⟩ (.slice o4 n2 c4) := ⟨_, rfl⟩
  have g2 : w3.grownBy Y (some w.heap.size) := by rw [hY]; exact gset (grefl _ _)
  have y0 : RowAt Y w.heap.size [.int .i64 id, .bool up, .slice o4 n2 c4, .slice o3 n3 m3] 51 := by rw [hY]; exact R0.set1 2 _
  have y1 : RowAt Y (w.heap.size + 1) [.int .i64 0, .bool false, .slice none 0 0, .slice none 0 0] 51 := by rw [hY]; exact R1.far1 (by omega) _ _
  have hh5 : HasRts Y (.slice o4 n2 c4) rts := rts_apart hh4 R0 g2
  have hb5 : HasLks Y (.slice o3 n3 m3) lks := lks_apart (hb.keep hb3) R0 g2
  have hBY : Below w.heap.size w Y := by rw [hY]; exact bset (below2 hB hb3) (Nat.le_refl _)
  obtain ⟨o6, c6, w4, hrun2, hh6, hb6⟩ := C2.out Y hb5
  have S0 := RowAt.below y0 hb6
  have S1 := RowAt.below y1 hb6
  obtain ⟨V, hV⟩ : ∃ V, V = w4.setCell ⟨w.heap.size, 3, none⟩ (.slice o6 n3 c6) := ⟨_, rfl⟩
  have g3 : w4.grownBy V (some w.heap.size) := by rw [hV]; exact gset (grefl _ _)
  have v0 : RowAt V w.heap.size [.int .i64 id, .bool up, .slice o4 n2 c4, .slice o6 n3 c6] 51 := by rw [hV]; exact S0.set1 3 _
  have v1 : RowAt V (w.heap.size + 1) [.int .i64 0, .bool false, .slice none 0 0, .slice none 0 0] 51 := by rw [hV]; exact S1.far1 (by omega) _ _
  have HR : Hid (HasRts V (.slice o4 n2 c4) rts ∧ HasLks V (.slice o6 n3 c6) lks ∧ Below w.heap.size w V) := ⟨rts_apart (hh5.keep hb6) S0 g3, lks_apart hh6 S0 g3, by rw [hV]; exact bset (below2 hBY hb6) (Nat.le_refl _)⟩
  clear C1 C2 ha hb hh4 hh5 hb5 hh6 g2 g3 hBY hB
  obtain ⟨p0, p1, p2, p3, pf0⟩ := cells4 r0
  go_enter Tryz.func24, Tryz.ntmps24
  go_upto_region 1 with fail
  rw [← hX]
  clear hX
  have hXl : w.heap.size < X.heap.size := hlt
  have P0 : (X.alloc (.cells #[] 105)).cell? ⟨w.heap.size, 2, none⟩ = some (.slice o2 n2 m2) := (RowAt.below r0 (below_new (Below.refl _ X) _)).cell 2
  obtain ⟨q0, q1, q2, q3, qf0⟩ := cells4 R0
  go_upto_region 2 with fail
  rw [← hY]
  clear hY P0 p0 p1 p2 p3 pf0 q0 q1 q2 q3 qf0 hrun
  have P1 : (Y.alloc (.cells #[] 108)).cell? ⟨w.heap.size, 3, none⟩ = some (.slice o3 n3 m3) := (RowAt.below y0 (below_new (Below.refl _ Y) _)).cell 3
  obtain ⟨p0, p1, p2, p3, pf0⟩ := cells4 y0
  obtain ⟨q0, q1, q2, q3, qf0⟩ := cells4 S0
  go_upto_region 3 with fail
  rw [← hV]
  clear hV P1 p0 p1 p2 p3 pf0 q0 q1 q2 q3 qf0 hrun2
  obtain ⟨p0, p1, p2, p3, pf0⟩ := cells4 v0
  obtain ⟨q0, q1, q2, q3, qf0⟩ := cells4 v1
  go_wp2_with fail
  (try simp only [Exit.inBlock, Exit.then])
  refine bodyPost_ret (v := .agg #[.int .i64 id, .bool up, .slice o4 n2 c4, .slice o6 n3 c6]) ?_ rfl ⟨_, _, _, _, _, _, rfl, ?_, ?_, ?_⟩
  · rw [results_cell rfl]
    go_simp
  · exact rts_apart HR.out.1 v1 (set4_gr _ _ _ _ _ _)
  · exact lks_apart HR.out.2.1 v1 (set4_gr _ _ _ _ _ _)
  · exact set4_bl HR.out.2.2 (by omega) _ _ _ _
end Go.Proofs.YtbglbegljkgknaaGreat.Fib
