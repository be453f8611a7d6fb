/- What order.Find returns. -/
import Derived.Test.YtkjhnefbcnnjlaaGreatNv09
import Derived.Test.YtkjhnefbcnnjlaaGreatNv15
import Derived.Test.YtkjhnefbcnnjlaaGreatNv13
import Derived.Test.YtkjhnefbcnnjlaaGreatNv01
set_option linter.unusedVariables false
namespace Go.Proofs.YtkjhnefbcnnjlaaGreat.Nt
open Go.RowKit
open Go.Proofs.YtkjhnefbcnnjlaaGreat.Lk (HasLks HasLks.keep)
open Go.Proofs.YtkjhnefbcnnjlaaGreat.Tr (HasRts HasRts.keep)
open Go.Proofs.YtkjhnefbcnnjlaaGreat.Fib
open Go.Proofs.YtkjhnefbcnnjlaaGreat.Ord (St HasSts okL HasSts.keep HasSts.cell)
open Go.Proofs.YtkjhnefbcnnjlaaGreat.Addr (RowAt below2 below_new RowAt.cell RowAt.below RowAt.new RowAt.alloc cells2 cells4 Bl bl_ne wp_region_bl bl_call)
theorem sizeN_snoc (L : List Ro) (k : Nat) (h : k < L.length) : sizeN (L.take (k + 1)) = sizeN (L.take k) + (L[k].rts.length + L[k].lks.length) := by
  rw [List.take_succ_eq_append_getElem h, sizeN_app]
  simp only [sizeN, manyR]
  omega
theorem sizeN_le (L : List Ro) (c : Nat) (hs : ∀ R ∈ L, manyR R ≤ c) : sizeN L ≤ L.length * c := by
  induction L with
  | nil => simp [sizeN]
  | cons x L ih =>
    have h1 := hs x List.mem_cons_self
    have h2 := ih (fun R hR => hs R (List.mem_cons_of_mem _ hR))
    simp only [sizeN, List.length_cons]
    have : (L.length + 1) * c = L.length * c + c := Nat.succ_mul _ _
    omega
set_option maxHeartbeats 2000000 in
set_option maxRecDepth 20000 in
theorem size_any (L : List Ro) (v : Value) (w : World) (h : HasRos w v L) (hl : L.length ≤ 1000) (hs : ∀ R ∈ L, manyR R ≤ 1000) :
    Calls Tryz.prog 24 #[v] w fun e w' => e = .returned (.int .i64 (sizeN L : Int)) ∧ Below w.heap.size w w' := by
  obtain ⟨o, c, rfl, hc1, hc2⟩ := HasRos.slice h
  have HR : Hid (∀ wr : World, Below w.heap.size w wr → HasRos wr (.slice o L.length c) L) := fun wr hb => h.keep hb
  obtain ⟨n, hn⟩ : ∃ n, n = L.length := ⟨_, rfl⟩
  have HN : Hid (n = L.length) := hn
  have HS : Hid (∀ R ∈ L, manyR R ≤ 1000) := hs
  rw [← hn] at HR hc1 hl ⊢
  have hni : (n : Int) ≤ 1000 := by omega
  clear h hn hs
  go_enter Tryz.func24, Tryz.ntmps24
  go_wp2_with fail
  go_loopw [3, 8] (fun q i wr => ∃ k : Nat, k ≤ n ∧ i = .int .i64 k ∧ (∃ m : Nat, q = .int .i64 m ∧ Hid (m = sizeN (L.take k))) ∧ Below w.heap.size w wr) (fun _ i _ => n - (Go.RowKit.intOf i).toNat)
  case atStart => exact ⟨0, by omega, rfl, ⟨0, rfl, by show 0 = _; rw [List.take_zero]; rfl⟩, Below.refl _ _⟩
  case round =>
    obtain ⟨k, hk, rfl, ⟨m, rfl, HM⟩, hB⟩ := hrel
    by_cases hlt : k < n
    · have hkz : k < L.length := by rw [← HN.out]; exact hlt
      obtain ⟨b1, i1, o1, c1, o2, c2, rfl, hb1, a0, a1, a2, a3, _, _⟩ := HasRos.cell (HR.out _ hB) k hkz
      have hm1 : m ≤ 1000000 := by
        have h1 := sizeN_le (L.take k) 1000 (fun R hR => HS.out R (List.mem_of_mem_take hR))
        rw [List.length_take] at h1
        have h2 : min k L.length * 1000 ≤ 1000 * 1000 := Nat.mul_le_mul_right _ (by omega)
        rw [← HM.out] at h1
        omega
      have hmk : L[k].rts.length + L[k].lks.length ≤ 1000 := HS.out _ (List.getElem_mem hkz)
      have HM2 : Hid (∀ x y, x = L[k].rts.length → y = L[k].lks.length → m + (x + y) = sizeN (L.take (k + 1))) := fun x y e1 e2 => by
        rw [sizeN_snoc L k hkz, ← HM.out, e1, e2]
      obtain ⟨x, hx⟩ : ∃ x, x = L[k].rts.length := ⟨_, rfl⟩
      obtain ⟨y, hy⟩ : ∃ y, y = L[k].lks.length := ⟨_, rfl⟩
      have HM3 : Hid (m + (x + y) = sizeN (L.take (k + 1))) := HM2.out x y hx hy
      rw [← hx] at a2 hmk
      rw [← hy] at a3 hmk
      clear hx hy HM2 HM
      generalize L[k].id = id at a0
      generalize L[k].up = up at a1
      have hki : (k : Int) < (n : Int) := by omega
      have hmi : (m : Int) ≤ 1000000 := by omega
      have hxy : (x : Int) + (y : Int) ≤ 1000 := by omega
      obtain ⟨X, hX⟩ : ∃ X, X = wr.alloc (.cells #[.int .i64 id, .bool up, .slice o1 x c1, .slice o2 y c2] 51) := ⟨_, rfl⟩
      have hbX : Below wr.heap.size wr X := by rw [hX]; exact below_new (Below.refl _ _) _
      have r0 : RowAt X wr.heap.size [.int .i64 id, .bool up, .slice o1 x c1, .slice o2 y c2] 51 := by rw [hX]; exact RowAt.new _ _ _
      go_upto_region 5 with fail
      rw [← hX]
      have hBX := below2 hB hbX
      clear hX hbX a0 a1 a2 a3 hb1
      generalize wr.heap.size = gs at r0 ⊢
      obtain ⟨y0, y1, y2, y3, yf⟩ := cells4 r0
      go_wp2_with fail
      go_roundw
      case rel => exact ⟨k + 1, by omega, by go_num, ⟨m + (x + y), by go_num, HM3⟩, hBX⟩
      case measure => simp [Go.RowKit.intOf]; omega
    · have hkn2 : k = n := by omega
      subst hkn2
      have hkd : decide ((k : Int) < (k : Int)) = false := decide_eq_false (by omega)
      have HF : Hid (m = sizeN L) := by show m = _; rw [HM.out, HN.out, List.take_length]
      clear HM
      go_wp2_with fail
      go_ret
      exact ⟨by rw [HF.out]; rfl, hB⟩
theorem eachR_iff : ∀ (l : List Ro) (t : List St), l.length = t.length → (eachR l t = true ↔ ∀ j (h1 : j < l.length) (h2 : j < t.length), fitsR l[j] t[j] = true) := by
  intro l
  induction l with
  | nil => intro t _; exact ⟨fun _ j h => by simp at h, fun _ => rfl⟩
  | cons R l ih =>
    intro t ht
    cases t with
    | nil => simp at ht
    | cons s t =>
      simp only [eachR, Bool.and_eq_true]
      rw [ih t (by simpa using ht)]
      constructor
      · rintro ⟨h1, h2⟩ j hj1 hj2
        cases j with
        | zero => exact h1
        | succ j => exact h2 j (by simpa using hj1) (by simpa using hj2)
      · intro h
        exact ⟨h 0 (by simp) (by simp), fun j h1 h2 => h (j + 1) (by simpa using h1) (by simpa using h2)⟩
theorem fitsR_ok {R : Ro} {s : St} (h : fitsR R s = true) : okRo R = true ∧ R.id = s.router ∧ R.up = s.up := by
  unfold fitsR at h
  simp only [Bool.and_eq_true, decide_eq_true_eq] at h
  exact ⟨h.1, h.2.1, h.2.2⟩
theorem okRo_many {R : Ro} (h : okRo R = true) : manyR R ≤ 1000 ∧ R.rts.length ≤ 256 ∧ R.lks.length ≤ 32 := by
  unfold okRo at h
  simp only [Bool.and_eq_true] at h
  have h1 := ((Tr.okT_iff _).1 h.1.1.2).1
  have h2 : R.lks.length ≤ 32 := by
    have := h.1.2
    unfold Lk.okL at this
    simp only [Bool.and_eq_true, decide_eq_true_eq] at this
    exact this.1
  unfold manyR
  omega
set_option maxHeartbeats 8000000 in
set_option maxRecDepth 20000 in
theorem check_walk (S : List St) (L : List Ro) (so lo : Option Addr) (sn ln sc lc : Nat) (w : World) (hs : HasSts w (.slice so sn sc) S) (hl : HasRos w (.slice lo ln lc) L) (en : Hid (sn = S.length)) (el : Hid (ln = L.length)) (hf : ∀ R ∈ L, FitRo R)
    (co : ∀ W, HasSts W (.slice so sn sc) S → Calls Tryz.prog 22 #[.slice so sn sc] W fun e w' => e = .returned (.int .i64 (if okL S then 0 else 2)) ∧ Below W.heap.size W w') :
    Calls Tryz.prog 11 #[.agg #[.slice so sn sc, .slice lo ln lc]] w fun e w' => e = .returned (.int .i64 (checkN ⟨S, L⟩)) ∧ Below w.heap.size w w' := by
  have HC : Hid (checkN ⟨S, L⟩ = if okL S && (decide (L.length = S.length) && (eachR L S && decide (sizeN L ≤ 1024))) then 0 else 2) := rfl
  generalize checkN ⟨S, L⟩ = R at HC ⊢
  have HF : Hid (∀ R ∈ L, FitRo R) := hf
  have HOL : Hid (okL S = true → S.length ≤ 64) := fun h => by unfold okL at h; simp only [Bool.and_eq_true, decide_eq_true_eq] at h; exact h.1
  clear hf
  obtain ⟨X, hX⟩ : ∃ X, X = w.alloc (.cells #[.slice so sn sc, .slice lo ln lc] 25) := ⟨_, rfl⟩
  have hB : Below w.heap.size w X := by rw [hX]; exact below_new (Below.refl _ _) _
  have r0 : RowAt X w.heap.size [.slice so sn sc, .slice lo ln lc] 25 := by rw [hX]; exact RowAt.new _ _ _
  replace hs := hs.keep hB
  replace hl := hl.keep hB
  go_enter Tryz.func11, Tryz.ntmps11
  go_upto_region 1 with fail
  rw [← hX]
  clear hX
  generalize w.heap.size = gn at r0 ⊢
  obtain ⟨x0, x1, xf⟩ := cells2 r0
  go_wp2_with fail
  go_at_call 22; refine (co _ hs).mono ?_; rintro e w1 ⟨rfl, hb1⟩
  replace hB := below2 hB hb1
  replace r0 := RowAt.below r0 hb1
  replace hs := hs.keep hb1
  replace hl := hl.keep hb1
  clear x0 x1 xf hb1 co
  obtain ⟨x0, x1, xf⟩ := cells2 r0
  cases hok : okL S
  · have HV : Hid (R = 2) := by show R = 2; rw [HC.out, hok]; rfl
    clear HC
    simp only [Bool.false_eq_true, if_false]
    go_wp2_with fail
    go_ret
    exact ⟨by first | (rw [HV.out]; rfl) | rfl, hB⟩
  simp only [if_true]
  have h64 := HOL.out hok
  by_cases hlen : L.length = S.length
  rotate_left
  · have HV : Hid (R = 2) := by show R = 2; rw [HC.out, hok, decide_eq_false hlen]; rfl
    have hne : ((ln : Int) != (sn : Int)) = true := by rw [bne_iff_ne, en.out, el.out]; omega
    have hne2 : ¬ ln = sn := by rw [en.out, el.out]; exact hlen
    clear HC
    go_wp2_with fail
    go_ret
    exact ⟨by first | (rw [HV.out]; rfl) | rfl, hB⟩
  have hls : ln = sn := by rw [en.out, el.out]; exact hlen
  subst hls
  have hne : ((ln : Int) != (ln : Int)) = false := by simp
  have hn64 : ln ≤ 64 := by rw [en.out]; exact h64
  have hni : (ln : Int) ≤ 64 := by omega
  have HE : Hid (R = if eachR L S && decide (sizeN L ≤ 1024) then 0 else 2) := by show R = _; rw [HC.out, hok, decide_eq_true hlen]; rfl
  have HEI : Hid (eachR L S = true ↔ ∀ j (h1 : j < L.length) (h2 : j < S.length), fitsR L[j] S[j] = true) := eachR_iff L S hlen
  clear HC HOL hok h64
  have HLEN : Hid (L.length = S.length) := hlen
  clear hlen
  go_wp2_with fail
  clear x0 x1 xf
  go_loopw [21] (fun i wr => ∃ k : Nat, k ≤ ln ∧ i = .int .i64 k ∧ Hid (Below w1.heap.size w1 wr ∧ ∀ j (h1 : j < L.length) (h2 : j < S.length), j < k → fitsR L[j] S[j] = true)) (fun i _ => ln - (Go.RowKit.intOf i).toNat)
  case atStart => exact ⟨0, by omega, rfl, Below.refl _ _, fun j h1 h2 h3 => by omega⟩
  case round =>
    obtain ⟨k, hk, rfl, HI⟩ := hrel
    have hbl := HI.out.1
    by_cases hlt : k < ln
    · have hkz : k < L.length := by rw [← el.out]; exact hlt
      have hks : k < S.length := by rw [← en.out]; exact hlt
      obtain ⟨b1, i1, o1, c1, o2, c2, rfl, hb1, a0, a1, a2, a3, ar, ak⟩ := HasRos.cell (hl.keep hbl) k hkz
      obtain ⟨b2, i2, rfl, hb2, s0, s1, s2, s3⟩ := HasSts.cell (hs.keep hbl) k hks
      have cf0 : ∀ W, HasRts W (.slice o1 L[k].rts.length c1) L[k].rts → HasLks W (.slice o2 L[k].lks.length c2) L[k].lks → Calls Tryz.prog 23 #[.agg #[.int .i64 L[k].id, .bool L[k].up, .slice o1 L[k].rts.length c1, .slice o2 L[k].lks.length c2]] W fun e w' => e = .returned (.int .i64 (if okRo L[k] then 0 else 2)) ∧ Below W.heap.size W w' := fun W h1 h2 => Fib.check_any L[k] _ _ W h1 h2 (HF.out _ (List.getElem_mem hkz)).rts
      have HFT : Hid (fitsR L[k] S[k] = (okRo L[k] && (decide (L[k].id = S[k].router) && decide (L[k].up = S[k].up)))) := rfl
      have HBAD : Hid (fitsR L[k] S[k] = false → R = 2) := fun h => by
        rw [HE.out]
        have : eachR L S = false := by
          cases hx : eachR L S with
          | false => rfl
          | true => rw [HEI.out.1 hx k hkz hks] at h; cases h
        rw [this]; rfl
      have HNX : Hid (fitsR L[k] S[k] = true → ∀ j (h1 : j < L.length) (h2 : j < S.length), j < k + 1 → fitsR L[j] S[j] = true) := fun h j h1 h2 h3 => by
        rcases Nat.lt_or_ge j k with h4 | h4
        · exact HI.out.2 j h1 h2 h4
        · have : j = k := by omega
          subst this; exact h
      generalize fitsR L[k] S[k] = F at HFT HBAD HNX
      generalize L[k].rts = rts at *
      generalize L[k].lks = lks at *
      generalize okRo L[k] = kr at cf0 HFT
      generalize L[k].id = id at *
      generalize L[k].up = up at *
      generalize S[k].router = sr at *
      generalize S[k].up = su at *
      generalize (S[k].seq : Int) = sq at *
      generalize S[k].time = stt at *
      generalize rts.length = n1 at *
      generalize lks.length = n2 at *
      have hki : (k : Int) < (ln : Int) := by omega
      obtain ⟨Y, hY⟩ : ∃ Y, Y = wr.alloc (.cells #[.int .i64 id, .bool up, .slice o1 n1 c1, .slice o2 n2 c2] 51) := ⟨_, rfl⟩
      have hbY : Below wr.heap.size wr Y := by rw [hY]; exact below_new (Below.refl _ _) _
      have rY : RowAt Y wr.heap.size [.int .i64 id, .bool up, .slice o1 n1 c1, .slice o2 n2 c2] 51 := by rw [hY]; exact RowAt.new _ _ _
      go_upto_region 6 with fail
      rw [← hY]
      have hbn : Below w1.heap.size w1 Y := below2 hbl hbY
      have rn := RowAt.below r0 hbn
      have u0 : ∀ p : Bl Y, p.W.cell? ⟨b2, i2 + k * 4, none⟩ = some (.int .i64 sr) := fun p => ((hbY.trans (p.h.mono hbY.size)).cell (p := ⟨b2, i2 + k * 4, none⟩) hb2).trans s0
      have u3 : ∀ p : Bl Y, p.W.cell? ⟨b2, i2 + k * 4 + 3, none⟩ = some (.bool su) := fun p => ((hbY.trans (p.h.mono hbY.size)).cell (p := ⟨b2, i2 + k * 4 + 3, none⟩) hb2).trans s3
      have cf : ∀ p : Bl Y, Calls Tryz.prog 23 #[.agg #[.int .i64 id, .bool up, .slice o1 n1 c1, .slice o2 n2 c2]] p.W fun e w' => e = .returned (.int .i64 (if kr then 0 else 2)) ∧ Below p.W.heap.size p.W w' := fun p => cf0 p.W (ar.keep (hbY.trans (p.h.mono hbY.size))) (ak.keep (hbY.trans (p.h.mono hbY.size)))
      clear hY a0 a1 a2 a3 s0 s1 s2 s3 ar ak cf0 hb1 hb2 hbY
      generalize wr.heap.size = gs at rY ⊢
      have v0 : ∀ p : Bl Y, p.W.cell? ⟨gs, 0, none⟩ = some (.int .i64 id) := fun p => (rY.below p.h).cell 0
      have v1 : ∀ p : Bl Y, p.W.cell? ⟨gs, 1, none⟩ = some (.bool up) := fun p => (rY.below p.h).cell 1
      have v2 : ∀ p : Bl Y, p.W.cell? ⟨gs, 2, none⟩ = some (.slice o1 n1 c1) := fun p => (rY.below p.h).cell 2
      have v3 : ∀ p : Bl Y, p.W.cell? ⟨gs, 3, none⟩ = some (.slice o2 n2 c2) := fun p => (rY.below p.h).cell 3
      have t0 : ∀ p : Bl Y, p.W.cell? ⟨gn, 0, none⟩ = some (.slice (some ⟨b2, i2, none⟩) ln sc) := fun p => (rn.below p.h).cell 0
      haveI := bl_ne Y
      cases kr
      · have HV : Hid (R = 2) := HBAD.out (by rw [HFT.out]; rfl)
        simp only [Bool.false_eq_true, if_false] at cf
        clear HBAD HNX HFT
        refine wp_region_bl (by kernel_rfl) (by kernel_rfl) ?_
        repeat (go_big_quiet_step (first | (go_at_call 23; with_reducible exact bl_call (cf _))))
        refine wpQuiet_nil ?_
        intro wq hw'
        obtain ⟨⟨wz, hq⟩, hw2⟩ := hw'
        subst hw2
        have hW := below2 hB (below2 hbn hq)
        go_wp2_with fail
        go_ret
        exact ⟨by first | (rw [HV.out]; rfl) | rfl, hW⟩
      simp only [if_true] at cf
      by_cases hid : id = sr
      rotate_left
      · have HV : Hid (R = 2) := HBAD.out (by rw [HFT.out, decide_eq_false hid]; rfl)
        have hd : (id != sr) = true := by rw [bne_iff_ne]; exact hid
        clear HBAD HNX HFT
        refine wp_region_bl (by kernel_rfl) (by kernel_rfl) ?_
        repeat (go_big_quiet_step (first | (go_at_call 23; with_reducible exact bl_call (cf _))))
        refine wpQuiet_nil ?_
        intro wq hw'
        obtain ⟨⟨wz, hq⟩, hw2⟩ := hw'
        subst hw2
        have hW := below2 hB (below2 hbn hq)
        go_wp2_with fail
        go_ret
        exact ⟨by first | (rw [HV.out]; rfl) | rfl, hW⟩
      subst hid
      have hd : (id != id) = false := by simp
      cases hud : decide (up = su)
      · have HV : Hid (R = 2) := HBAD.out (by rw [HFT.out, hud, decide_eq_true rfl]; rfl)
        have hsu : su = !up := by
          have := of_decide_eq_false hud
          cases up <;> cases su <;> simp_all
        subst hsu
        clear HBAD HNX HFT hud
        cases up
        all_goals
          simp only [Bool.not_false, Bool.not_true] at u3
          refine wp_region_bl (by kernel_rfl) (by kernel_rfl) ?_
          repeat (go_big_quiet_step (first | (go_at_call 23; with_reducible exact bl_call (cf _))))
          refine wpQuiet_nil ?_
          intro wq hw'
          obtain ⟨⟨wz, hq⟩, hw2⟩ := hw'
          subst hw2
          have hW := below2 hB (below2 hbn hq)
          go_wp2_with fail
          go_ret
          exact ⟨by first | (rw [HV.out]; rfl) | rfl, hW⟩
      · have HG : Hid (∀ j (h1 : j < L.length) (h2 : j < S.length), j < k + 1 → fitsR L[j] S[j] = true) := HNX.out (by rw [HFT.out, hud, decide_eq_true rfl]; rfl)
        have hus : up = su := of_decide_eq_true hud
        subst hus
        have hd2 : (up != up) = false := by simp
        clear HBAD HNX HFT hud
        refine wp_region_bl (by kernel_rfl) (by kernel_rfl) ?_
        repeat (go_big_quiet_step (first | (go_at_call 23; with_reducible exact bl_call (cf _))))
        refine wpQuiet_nil ?_
        intro wq hw'
        obtain ⟨⟨wz, hq⟩, hw2⟩ := hw'
        subst hw2
        have hW := below2 hbn hq
        go_wp2_with fail
        go_roundw
        case rel => exact ⟨k + 1, by omega, by go_num, hW, HG.out⟩
        case measure => simp [Go.RowKit.intOf]; omega
    · have hkn2 : k = ln := by omega
      subst hkn2
      have hkd : decide ((k : Int) < (k : Int)) = false := decide_eq_false (by omega)
      have hall : ∀ j (h1 : j < L.length) (h2 : j < S.length), fitsR L[j] S[j] = true := fun j h1 h2 => HI.out.2 j h1 h2 (by rw [el.out]; exact h1)
      have HT : Hid (R = if decide (sizeN L ≤ 1024) then 0 else 2) := by show R = _; rw [HE.out, HEI.out.2 hall]; rfl
      have cz := size_any L _ wr (hl.keep hbl) (by have := el.out; omega) (fun Q hQ => by
        obtain ⟨j, hj, rfl⟩ := List.getElem_of_mem hQ
        exact (okRo_many (fitsR_ok (hall j hj (by rw [← HLEN.out]; exact hj))).1).1)
      have hW := below2 hB hbl
      obtain ⟨x0, x1, xf⟩ := cells2 (RowAt.below r0 hbl)
      have HSZ : Hid (sizeN L ≤ 100000000) := by
        have := sizeN_le L 1000 (fun Q hQ => by
          obtain ⟨j, hj, rfl⟩ := List.getElem_of_mem hQ
          exact (okRo_many (fitsR_ok (hall j hj (by rw [← HLEN.out]; exact hj))).1).1)
        have h9 : L.length ≤ 64 := by rw [← el.out]; exact hn64
        have := Nat.mul_le_mul_right 1000 h9
        show _ ≤ _
        omega
      clear HI HE HEI hall hbl
      generalize sizeN L = z at *
      go_wp2_with fail
      go_at_call 24; refine cz.mono ?_; rintro e w5 ⟨rfl, hb5⟩
      replace hW := below2 hW hb5
      cases hz : decide (z ≤ 1024)
      · have HV : Hid (R = 2) := by show R = 2; rw [HT.out, hz]; rfl
        have q1 : decide ((1024 : Int) < (z : Int)) = true := decide_eq_true (by have := of_decide_eq_false hz; omega)
        have q2 : decide (1024 < z) = true := decide_eq_true (by have := of_decide_eq_false hz; omega)
        clear HT hz
        go_wp2_with fail
        go_ret
        exact ⟨by first | (rw [HV.out]; rfl) | rfl, hW⟩
      · have HV : Hid (R = 0) := by show R = 0; rw [HT.out, hz]; rfl
        have q1 : decide ((1024 : Int) < (z : Int)) = false := decide_eq_false (by have := of_decide_eq_true hz; omega)
        have q2 : decide (1024 < z) = false := decide_eq_false (by have := of_decide_eq_true hz; omega)
        clear HT hz
        go_wp2_with fail
        go_ret
        exact ⟨by first | (rw [HV.out]; rfl) | rfl, hW⟩
theorem check_any (n : NetT) (u v : Value) (w : World) (hs : HasSts w u n.seats) (hl : HasRos w v n.ros) (hf : ∀ R ∈ n.ros, FitRo R) :
    Calls Tryz.prog 11 #[.agg #[u, v]] w fun e w' => e = .returned (.int .i64 (checkN n)) ∧ Below w.heap.size w w' := by
  obtain ⟨so, sc, rfl, _⟩ := Ord.HasRow.slice hs
  obtain ⟨lo, lc, rfl, _⟩ := HasRos.slice hl
  exact check_walk n.seats n.ros so lo _ _ sc lc w hs hl rfl rfl hf (fun W h => Ord.check_any n.seats _ W h)
end Go.Proofs.YtkjhnefbcnnjlaaGreat.Nt
namespace Go.Proofs.YtkjhnefbcnnjlaaGreat.Ord
open Go.RowKit
open Go.Proofs.YtkjhnefbcnnjlaaGreat.Msg (results_cell_tmp1)
open Go.Proofs.YtkjhnefbcnnjlaaGreat.Addr (RowAt below2 below_drew below_new bset RowAt.lt RowAt.cell RowAt.below RowAt.new RowAt.alloc cells4)

set_option maxHeartbeats 2000000 in
theorem is_any (a : Int) (b : Int) (c : Int) (u : Bool) (g : Nat) (r : Int) (w : World) (hg : RowAt w g [.int .i64 r] 3) :
    Calls Tryz.prog 108 #[.agg #[.int .i64 a, .int .u64 b, .int .i64 c, .bool u], .pointer (some ⟨g, 0, none⟩)] w fun e w' => e = .returned (.bool (decide (a = r))) ∧ Below w.heap.size w w' := by
  obtain ⟨X, hX⟩ : ∃ X, X = w.alloc (.cells #[.int .i64 a, .int .u64 b, .int .i64 c, .bool u] 70) := ⟨_, rfl⟩
  have hB : Below w.heap.size w X := by rw [hX]; exact below_new (Below.refl _ _) _
  have r0 : RowAt X w.heap.size [.int .i64 a, .int .u64 b, .int .i64 c, .bool u] 70 := by rw [hX]; exact RowAt.new _ _ _
  have r1 := RowAt.below hg hB
  obtain ⟨x0, x1, x2, x3, xf⟩ := cells4 r0
  have y0 : X.cell? ⟨g, 0, none⟩ = some (.int .i64 r) := r1.cell 0
  clear r0 r1 hg
  go_enter Tryz.func108, Tryz.ntmps108
  go_upto_region 1 with fail
  rw [← hX]
  clear hX
  go_wp2_with fail
  go_ret
  exact ⟨by simp [Bool.beq_eq_decide_eq], hB⟩
/-- the place of the first seat of a router from the k-th on -/
def idxL (l : List St) (r : Int) (k : Nat) : Int :=
  match (l.drop k).findIdx? (fun s => decide (s.router = r)) with
  | some j => ((k + j : Nat) : Int)
  | none => -1
theorem idx_end (l : List St) (r : Int) (k : Nat) (h : l.length ≤ k) : idxL l r k = -1 := by unfold idxL; rw [List.drop_of_length_le h]; rfl
theorem idx_hit (l : List St) (r : Int) (k : Nat) (h : k < l.length) (hr : decide (l[k].router = r) = true) : idxL l r k = (k : Int) := by
  unfold idxL
  rw [List.drop_eq_getElem_cons h, List.findIdx?_cons, hr]
  simp
theorem idx_miss (l : List St) (r : Int) (k : Nat) (h : k < l.length) (hr : decide (l[k].router = r) = false) : idxL l r k = idxL l r (k + 1) := by
  unfold idxL
  rw [List.drop_eq_getElem_cons h, List.findIdx?_cons, hr]
  cases (l.drop (k + 1)).findIdx? (fun s => decide (s.router = r)) with
  | none => simp
  | some j => simp; omega
set_option maxHeartbeats 4000000 in
set_option maxRecDepth 20000 in
theorem index_any (l : List St) (v : Value) (g : Nat) (r : Int) (w : World) (h : HasSts w v l) (hg : RowAt w g [.int .i64 r] 3) :
    Calls Tryz.prog 107 #[v, .func (.func 108) #[] #[.pointer (some ⟨g, 0, none⟩)]] w fun e w' => e = .returned (.int .i64 (idxL l r 0)) ∧ Below w.heap.size w w' := by
  obtain ⟨o, c, rfl, hc1, hc2⟩ := HasRow.slice h
  have HR : Hid (∀ wr : World, Below w.heap.size w wr → HasSts wr (.slice o l.length c) l ∧ RowAt wr g [.int .i64 r] 3) := fun wr hb => ⟨h.keep hb, RowAt.below hg hb⟩
  obtain ⟨n, hn⟩ : ∃ n, n = l.length := ⟨_, rfl⟩
  have HN : Hid (n = l.length) := hn
  rw [← hn] at HR hc1 ⊢
  have hni : (n : Int) ≤ 9223372036854775807 := by omega
  obtain ⟨R, hR⟩ : ∃ R, R = idxL l r 0 := ⟨_, rfl⟩
  have HD : Hid (R = idxL l r 0) := hR
  rw [← hR]
  clear h hg hn hR
  go_enter Tryz.func107, Tryz.ntmps107
  go_wp2_with fail
  go_loopw [8] (fun i wr => ∃ k : Nat, k ≤ n ∧ i = .int .i64 k ∧ Below w.heap.size w wr ∧ Hid (R = idxL l r k)) (fun i _ => n - (intOf i).toNat)
  case atStart => exact ⟨0, by omega, rfl, Below.refl _ _, HD⟩
  case round =>
    obtain ⟨k, hk, rfl, hB, HG⟩ := hrel
    obtain ⟨hh, hr⟩ := HR.out _ hB
    by_cases hlt : k < n
    · have hkz : k < l.length := by rw [← HN.out]; exact hlt
      obtain ⟨g1, i1, rfl, hg1, a0, a1, a2, a3⟩ := HasSts.cell hh k hkz
      have HB1 : Hid (decide (l[k].router = r) = true → R = (k : Int)) := fun h => by rw [HG.out]; exact idx_hit l r k hkz h
      have HB2 : Hid (decide (l[k].router = r) = false → R = idxL l r (k + 1)) := fun h => by rw [HG.out]; exact idx_miss l r k hkz h
      have hki : (k : Int) < (n : Int) := by omega
      generalize l[k].router = ra at a0 HB1 HB2
      generalize (l[k].seq : Int) = rb at a1
      generalize l[k].time = rc at a2
      generalize l[k].up = ru at a3
      have cr := is_any ra rb rc ru g r wr hr
      generalize decide (ra = r) = B at cr HB1 HB2
      clear HG hh hr hg1
      go_wp2_with fail
      go_at_call 108; refine cr.mono ?_; rintro e w1 ⟨rfl, hb1⟩
      have hW := below2 hB hb1
      cases B
      · have HS1 := HB2.out rfl
        clear HB1 HB2 a0 a1 a2 a3
        go_wp2_with fail
        go_roundw
        case rel => exact ⟨k + 1, by omega, by go_num, hW, HS1⟩
        case measure => simp [intOf]; omega
      · have HV : Hid (R = (k : Int)) := HB1.out rfl
        clear HB1 HB2 a0 a1 a2 a3
        go_wp2_with fail
        go_ret
        exact ⟨by rw [HV.out]; rfl, hW⟩
    · obtain rfl : k = n := by omega
      have HV : Hid (R = -1) := by show _ = _; rw [HG.out]; exact idx_end l r _ (by rw [← HN.out]; exact Nat.le_refl _)
      clear hh hr HG
      go_wp2
      go_ret
      exact ⟨by rw [HV.out]; rfl, hB⟩
theorem idx_find (l : List St) (r : Int) : (idxL l r 0 = -1 ∧ findL l r = none) ∨ ∃ (j : Nat) (hj : j < l.length), idxL l r 0 = (j : Int) ∧ findL l r = some l[j] := by
  unfold idxL findL
  rw [List.drop_zero]
  cases hf : l.findIdx? (fun s => decide (s.router = r)) with
  | none =>
    refine .inl ⟨rfl, ?_⟩
    rw [List.findIdx?_eq_none_iff] at hf
    rw [List.find?_eq_none]
    intro x hx
    rw [hf x hx]
    simp
  | some j =>
    rw [List.findIdx?_eq_some_iff_getElem] at hf
    obtain ⟨hj, h1, h2⟩ := hf
    refine .inr ⟨j, hj, by simp, ?_⟩
    rw [List.find?_eq_some_iff_getElem]
    exact ⟨h1, j, hj, rfl, fun i hi => by have := h2 i hi; simpa using this⟩
set_option maxHeartbeats 4000000 in
set_option maxRecDepth 20000 in
theorem find_any (l : List St) (v : Value) (r : Int) (w : World) (h : HasSts w v l) :
    Calls Tryz.prog 81 #[v, .int .i64 r] w fun e w' => e = .returned (.tuple #[stV (seatOf l r), .bool (isIn l r)]) ∧ Below w.heap.size w w' := by
  obtain ⟨o, c, rfl, hc1, hc2⟩ := HasRow.slice h
  have HR : Hid (∀ wr : World, Below w.heap.size w wr → HasSts wr (.slice o l.length c) l) := fun wr hb => h.keep hb
  obtain ⟨X, hX⟩ : ∃ X, X = (w.alloc (.cells #[.int .i64 r] 3)).alloc (.cells #[.int .i64 0, .int .u64 0, .int .i64 0, .bool false] 70) := ⟨_, rfl⟩
  have hB : Below w.heap.size w X := by rw [hX]; exact below_new (below_new (Below.refl _ _) _) _
  have rr : RowAt X w.heap.size [.int .i64 r] 3 := by rw [hX]; exact (RowAt.new w [.int .i64 r] 3).alloc _
  have rs : RowAt X (w.heap.size + 1) [.int .i64 0, .int .u64 0, .int .i64 0, .bool false] 70 := by
    have h := RowAt.new (w.alloc (.cells #[.int .i64 r] 3)) [.int .i64 0, .int .u64 0, .int .i64 0, .bool false] 70
    rw [World.size_alloc] at h
    rw [hX]; exact h
  have cI := index_any l (.slice o l.length c) w.heap.size r X (HR.out _ hB) rr
  have hix := idx_find l r
  have hSt : stV (seatOf l r) = match findL l r with | some s => stV s | none => .agg #[.int .i64 0, .int .u64 0, .int .i64 0, .bool false] := by
    unfold seatOf
    cases findL l r <;> rfl
  have hIs : isIn l r = (findL l r).isSome := rfl
  rw [hSt, hIs]
  clear hSt hIs
  obtain ⟨n, hn⟩ : ∃ n, n = l.length := ⟨_, rfl⟩
  have HN : Hid (n = l.length) := hn
  rw [← hn] at HR hc1 cI ⊢
  have hni : (n : Int) ≤ 9223372036854775807 := by omega
  clear h hn rr
  have hls := RowAt.lt rs
  rcases hix with ⟨h1, h2⟩ | ⟨j, hj, h1, h2⟩
  · rw [h2]
    rw [h1] at cI
    clear h1 h2 HR
    go_enter Tryz.func81, Tryz.ntmps81
    go_upto_region 1 with fail
    rw [← hX]
    clear hX
    go_wp2_with fail
    go_at_call 107; refine cI.mono ?_; rintro e w1 ⟨rfl, hb1⟩
    have hW := below2 hB hb1
    replace rs := RowAt.below rs hb1
    clear hls
    obtain ⟨x0, x1, x2, x3, xf⟩ := cells4 rs
    have hls := RowAt.lt rs
    have hgw : w.heap.size ≤ w.heap.size + 1 := by omega
    generalize w.heap.size + 1 = gs at *
    go_wp2_with fail
    refine bodyPost_ret (v := .tuple #[.agg #[.int .i64 0, .int .u64 0, .int .i64 0, .bool false], .bool false]) ?_ rfl ⟨rfl, ?_⟩
    any_goals (rw [results_cell_tmp1 rfl]; go_simp)
    all_goals (repeat' (first | with_reducible exact hW | with_reducible apply below_drew | with_reducible refine bset ?_ (by omega)))
  · rw [h2]
    rw [h1] at cI
    show Calls Tryz.prog _ _ w fun e w' => e = .returned (.tuple #[.agg #[.int .i64 l[j].router, .int .u64 (l[j].seq : Int), .int .i64 l[j].time, .bool l[j].up], .bool true]) ∧ Below w.heap.size w w'
    have hjn : (j : Int) < (n : Int) := by rw [HN.out]; omega
    have q1 : decide ((j : Int) < 0) = false := decide_eq_false (by omega)
    have HCL : Hid (∀ W : World, HasSts W (.slice o n c) l → ∃ b i, o = some ⟨b, i, none⟩ ∧ b < W.heap.size ∧ W.cell? ⟨b, i + j * 4, none⟩ = some (.int .i64 l[j].router) ∧ W.cell? ⟨b, i + j * 4 + 1, none⟩ = some (.int .u64 (l[j].seq : Int)) ∧ W.cell? ⟨b, i + j * 4 + 2, none⟩ = some (.int .i64 l[j].time) ∧ W.cell? ⟨b, i + j * 4 + 3, none⟩ = some (.bool l[j].up)) := fun W h => HasSts.cell h j hj
    generalize l[j].router = ra at HCL ⊢
    generalize (l[j].seq : Int) = rb at HCL ⊢
    generalize l[j].time = rc at HCL ⊢
    generalize l[j].up = ru at HCL ⊢
    go_enter Tryz.func81, Tryz.ntmps81
    go_upto_region 1 with fail
    rw [← hX]
    clear hX
    go_wp2_with fail
    go_at_call 107; refine cI.mono ?_; rintro e w1 ⟨rfl, hb1⟩
    have hW := below2 hB hb1
    replace rs := RowAt.below rs hb1
    clear hls
    obtain ⟨x0, x1, x2, x3, xf⟩ := cells4 rs
    have hls := RowAt.lt rs
    have hgw : w.heap.size ≤ w.heap.size + 1 := by omega
    generalize w.heap.size + 1 = gs at *
    obtain ⟨g1, i1, rfl, hg1, a0, a1, a2, a3⟩ := HCL.out _ (HR.out _ hW)
    clear h1 h2 HR HCL
    go_wp2_with fail
    refine bodyPost_ret (v := .tuple #[.agg #[.int .i64 ra, .int .u64 rb, .int .i64 rc, .bool ru], .bool true]) ?_ rfl ⟨rfl, ?_⟩
    any_goals (rw [results_cell_tmp1 rfl]; go_simp)
    all_goals (repeat' (first | with_reducible exact hW | with_reducible apply below_drew | with_reducible refine bset ?_ (by omega)))
end Go.Proofs.YtkjhnefbcnnjlaaGreat.Ord
