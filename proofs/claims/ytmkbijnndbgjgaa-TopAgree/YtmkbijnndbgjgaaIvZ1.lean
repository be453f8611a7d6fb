/- What the laws of ivl lean on: the answers' rows, asked and counted, plain. -/
import Derived.Test.YtmkbijnndbgjgaaIvBase
import Derived.Test.YtmkbijnndbgjgaaLkOf
import Derived.Test.YtmkbijnndbgjgaaSpGath
import Derived.Test.YtmkbijnndbgjgaaSpTop3
import Derived.Test.YtmkbijnndbgjgaaSpTop2
import Derived.Test.YtmkbijnndbgjgaaSpHas
import Derived.Test.YtmkbijnndbgjgaaSpSeq
import Derived.Test.YtmkbijnndbgjgaaSpColl
import Derived.BigQuiet
import Derived.Deep.QuietTactic
import Derived.Laws.StructEq
set_option linter.unusedVariables false
namespace Go.Proofs.Ytmkbijnndbgjgaa.Iv
open Go.RowKit Go.Shelf
open Go.Proofs.Ytmkbijnndbgjgaa.Lk (HasRow hasRow_own addr_add idxL idx_at idx_none)
open Go.Proofs.Ytmkbijnndbgjgaa.Addr (RowAt below2 below_drew below_new bset RowAt.lt RowAt.cell RowAt.frozen RowAt.below RowAt.drew RowAt.new RowAt.alloc cells2)
set_option maxHeartbeats 2000000 in
theorem wrong_any (x : Iv) (w : World) : Calls Try.prog 62 #[.agg #[.int .i64 x.1, .int .i64 x.2]] w fun e w' => e = .returned (.bool (!okI x)) ∧ Below w.heap.size w w' := by
  have HV : Hid (∀ b, (!okI x) = b → b = (!okI x)) := fun b h => h.symm
  have h0 : okI x = (decide (0 ≤ x.1) && (decide (x.1 ≤ x.2) && decide (x.2 ≤ 1099511627776))) := rfl
  obtain ⟨a, b⟩ := x
  simp only at h0 ⊢
  obtain ⟨X, hX⟩ : ∃ X, X = w.alloc (.cells #[.int .i64 a, .int .i64 b] 23) := ⟨_, rfl⟩
  have hB : Below w.heap.size w X := by rw [hX]; exact below_new (Below.refl _ _) _
  have rs : RowAt X w.heap.size [.int .i64 a, .int .i64 b] 23 := by rw [hX]; exact RowAt.new _ _ _
  obtain ⟨s0, s1, sf⟩ := cells2 rs
  generalize okI (a, b) = R at *
  go_enter Try.func62, Try.ntmps62
  go_upto_region 1 with fail
  rw [← hX]
  clear hX
  by_cases h1 : a < 0
  · rw [decide_eq_false (by omega : ¬ (0 : Int) ≤ a)] at h0
    have d1 : decide (a < 0) = true := decide_eq_true h1
    subst h0
    go_wp2_with fail
    go_ret
    exact ⟨rfl, hB⟩
  · rw [decide_eq_true (by omega : (0 : Int) ≤ a)] at h0
    have d1 : decide (a < 0) = false := decide_eq_false h1
    by_cases h2 : b < a
    · rw [decide_eq_false (by omega : ¬ a ≤ b)] at h0
      have d2 : decide (b < a) = true := decide_eq_true h2
      subst h0
      go_wp2_with fail
      go_ret
      exact ⟨rfl, hB⟩
    · rw [decide_eq_true (by omega : a ≤ b)] at h0
      have d2 : decide (b < a) = false := decide_eq_false h2
      by_cases h3 : 1099511627776 < b
      · rw [decide_eq_false (by omega : ¬ b ≤ 1099511627776)] at h0
        have d3 : decide (1099511627776 < b) = true := decide_eq_true h3
        subst h0
        go_wp2_with fail
        go_ret
        exact ⟨rfl, hB⟩
      · rw [decide_eq_true (by omega : b ≤ 1099511627776)] at h0
        have d3 : decide (1099511627776 < b) = false := decide_eq_false h3
        subst h0
        go_wp2_with fail
        go_ret
        exact ⟨rfl, hB⟩
theorem idx_all (l : List Iv) : decide (0 ≤ idxL (fun s => !okI s) l) = !l.all okI := by
  unfold idxL
  cases h : l.findIdx? (fun s => !okI s) with
  | none =>
    have := List.findIdx?_eq_none_iff.1 h
    have h2 : l.all okI = true := List.all_eq_true.2 fun x hx => by have := this x hx; simpa using this
    rw [h2]
    rfl
  | some k =>
    obtain ⟨hk, hp, _⟩ := (List.findIdx?_eq_some_iff_getElem).1 h
    have : l.all okI = false := List.all_eq_false.2 ⟨l[k], List.getElem_mem hk, by simpa using hp⟩
    rw [this]
    simp
set_option maxHeartbeats 4000000 in
set_option maxRecDepth 20000 in
theorem idxWrong_any (l : List Iv) (v : Value) (w : World) (hl : HasI w v l) :
    Calls Try.prog 84 #[v, .func (.func 62) #[] #[]] w fun e w' => e = .returned (.int .i64 (idxL (fun s : Iv => !okI s) l)) ∧ Below w.heap.size w w' := by
  obtain ⟨o, c, rfl, hc1, hc2⟩ := HasRow.slice hl
  have HR : Hid (∀ wr : World, Below w.heap.size w wr → HasI wr (.slice o l.length c) l) := fun wr hb => hl.keep hb
  have HG : Hid (∀ (k : Nat) (hk : k < l.length) (wr : World), Calls Try.prog 62 #[.agg #[.int .i64 l[k].1, .int .i64 l[k].2]] wr fun e w' => e = .returned (.bool ((fun s : Iv => !okI s) l[k])) ∧ Below wr.heap.size wr w') := fun k hk wr => wrong_any l[k] wr
  obtain ⟨m, hm⟩ : ∃ m, m = l.length := ⟨_, rfl⟩
  have HN : Hid (m = l.length) := hm
  rw [← hm] at HR hc1 ⊢
  have hni : (m : Int) ≤ 9223372036854775807 := by omega
  obtain ⟨R, hR⟩ : ∃ R, R = idxL (fun s : Iv => !okI s) l := ⟨_, rfl⟩
  have HRD : Hid (R = idxL (fun s : Iv => !okI s) l) := hR
  rw [← hR]
  clear hl hm hR
  go_enter Try.func84, Try.ntmps84
  go_wp2_with fail
  go_loopw [8] (fun q wr => ∃ k : Nat, k ≤ m ∧ q = .int .i64 k ∧ Below w.heap.size w wr ∧ Hid (∀ j (hj : j < l.length), j < k → (fun s : Iv => !okI s) l[j] = false)) (fun q _ => m - (Go.RowKit.intOf q).toNat)
  case atStart => exact ⟨0, by omega, rfl, Below.refl _ _, fun j hj h => absurd h (Nat.not_lt_zero _)⟩
  case round =>
    obtain ⟨k, hk, rfl, hB, HI⟩ := hrel
    by_cases hlt : k < m
    · have hkz : k < l.length := by rw [← HN.out]; exact hlt
      obtain ⟨g1, i1, rfl, hg1, a0, a1⟩ := HasI.cell (HR.out _ hB) k hkz
      have cc2 := HG.out k hkz wr
      have HV1 : Hid ((fun s : Iv => !okI s) l[k] = true → R = (k : Int)) := fun h => by rw [HRD.out]; exact idx_at hkz HI.out h
      have HV2 : Hid ((fun s : Iv => !okI s) l[k] = false → ∀ j (hj : j < l.length), j < k + 1 → (fun s : Iv => !okI s) l[j] = false) := fun h j hj hjk => by
        by_cases e : j = k
        · subst e; exact h
        · exact HI.out j hj (by omega)
      have hki : (k : Int) < (m : Int) := by omega
      clear HI hg1
      simp only at HV1 HV2 cc2
      generalize hD : (!okI l[k]) = D at *
      clear hD
      generalize l[k].1 = r0 at *
      generalize l[k].2 = r1 at *
      go_wp2_with fail
      go_at_call 62; refine cc2.mono ?_; rintro e w2 ⟨rfl, hb2⟩
      have hB2 := below2 hB hb2
      cases D
      · have HV := HV2.out rfl
        have HV3 : Hid (∀ j (hj : j < l.length), j < k + 1 → (fun s : Iv => !okI s) l[j] = false) := HV
        clear HV HV1 HV2 cc2
        go_wp2_with fail
        go_roundw
        case rel => exact ⟨k + 1, by omega, by go_num, hB2, HV3⟩
        case measure => simp [Go.RowKit.intOf]; omega
      · have HV : Hid (R = (k : Int)) := HV1.out rfl
        clear HV1 HV2 cc2
        go_wp2_with fail
        go_ret
        exact ⟨by have h := HV.out; subst h; rfl, hB2⟩
    · have hkn : decide ((k : Int) < (m : Int)) = false := decide_eq_false (by omega)
      have HV : Hid (R = -1) := by show _ = _; rw [HRD.out]; exact idx_none (fun j hj => HI.out j hj (by have := HN.out; omega))
      clear HI
      go_wp2_with fail
      go_ret
      exact ⟨by have h := HV.out; subst h; rfl, hB⟩
theorem conWrong_any (l : List Iv) (v : Value) (w : World) (hl : HasI w v l) :
    Calls Try.prog 65 #[v, .func (.func 62) #[] #[]] w fun e w' => e = .returned (.bool (!l.all okI)) ∧ Below w.heap.size w w' := by
  have ci := idxWrong_any l v w hl
  rw [← idx_all]
  generalize idxL (fun s : Iv => !okI s) l = R at *
  obtain ⟨o, c, rfl, hc1, hc2⟩ := HasRow.slice hl
  generalize l.length = m at *
  clear hl
  go_enter Try.func65, Try.ntmps65
  go_wp2_with fail
  go_at_call 84; refine ci.mono ?_; rintro e w2 ⟨rfl, hb⟩
  go_wp2_with fail
  go_ret
  exact ⟨rfl, hb⟩
end Go.Proofs.Ytmkbijnndbgjgaa.Iv
namespace Go.Proofs.Ytmkbijnndbgjgaa.Iv
open Go.RowKit Go.Shelf
open Go.Proofs.Ytmkbijnndbgjgaa.Lk (HasRow hasRow_own addr_add)
open Go.Proofs.Ytmkbijnndbgjgaa.Sp (Sp inB inB_iff Row okS okS_iff okB topN HasSps HasSps.cell HasSps.keep spCs app_S make_S Own1 FitS)
open Go.Proofs.Ytmkbijnndbgjgaa.Addr (hiN loN adV RowAt below2 below_drew below_new bset RowAt.lt RowAt.cell RowAt.frozen RowAt.below RowAt.drew RowAt.new RowAt.alloc cells2 cells4 results_cell)
attribute [-go_sem] Builtin.append_
theorem address_any (t : Int) (w : World) : Calls Try.prog 57 #[.int .i64 t] w fun e w' => e = .returned (.agg #[.int .u64 0, .int .u64 (IntKind.u64.wrap t)]) ∧ Below w.heap.size w w' := by
  obtain ⟨X, hX⟩ : ∃ X, X = w.alloc (.cells #[.int .u64 0, .int .u64 0] 95) := ⟨_, rfl⟩
  have hB : Below w.heap.size w X := by rw [hX]; exact below_new (Below.refl _ _) _
  have rz : RowAt X w.heap.size [.int .u64 0, .int .u64 0] 95 := by rw [hX]; exact RowAt.new _ _ _
  have hlt := rz.lt
  obtain ⟨z0, z1, zf⟩ := cells2 rz
  go_enter Try.func57, Try.ntmps57
  go_upto_region 1 with fail
  rw [← hX]
  clear hX rz
  go_wp2_with fail
  (try simp only [Exit.inBlock, Exit.then])
  refine bodyPost_ret (v := .agg #[.int .u64 0, .int .u64 (IntKind.u64.wrap t)]) ?_ rfl ⟨rfl, ?_⟩
  · rw [results_cell rfl]
    go_simp
  · repeat' (first | with_reducible exact hB | with_reducible refine bset ?_ (by omega))
theorem addr_ok {t : Int} (h : 0 ≤ t) (h2 : t ≤ 1099511627776) (w : World) : Calls Try.prog 57 #[.int .i64 t] w fun e w' => e = .returned (.agg #[.int .u64 0, .int .u64 t]) ∧ Below w.heap.size w w' := by
  have := address_any t w
  rw [show IntKind.u64.wrap t = t by rw [IntKind.wrap_u64]; omega] at this
  exact this
theorem hi_tm {n : Nat} (h : n ≤ MaxT) : hiN n = 0 := by unfold hiN; unfold MaxT at h; omega
theorem lo_tm {n : Nat} (h : n ≤ MaxT) : loN n = n := by unfold loN; unfold MaxT at h; omega
theorem appS_iv {w W : World} {u : Value} {a : List Sp} (h : Own1 w W 115 u a) (x : Iv) (hx : okI x = true) (hb : a.length ≤ 1000000) :
    ∃ v' w3, (∀ ty, (Builtin.append_ #[88, 88] ty #[u, .slice (some ⟨W.heap.size, 0, none⟩) 1 1]).run Try.prog (W.alloc (.cells #[.int .u64 0, .int .u64 x.1, .int .u64 0, .int .u64 x.2] 115)) = .ok v' w3) ∧ Own1 w w3 115 v' (a ++ [toS x]) := by
  have h1 := okI_iff.1 hx
  obtain ⟨g, cap, w3, hrun, hO, _⟩ := app_S h (toS x) hb
  have e1 : (((toS x).1 : Nat) : Int) = x.1 := by show ((x.1.toNat : Nat) : Int) = _; omega
  have e2 : (((toS x).2 : Nat) : Int) = x.2 := by show ((x.2.toNat : Nat) : Int) = _; omega
  have m1 : (toS x).1 ≤ MaxT := by show x.1.toNat ≤ MaxT; unfold MaxT; omega
  have m2 : (toS x).2 ≤ MaxT := by show x.2.toNat ≤ MaxT; unfold MaxT; omega
  rw [hi_tm m1, lo_tm m1, hi_tm m2, lo_tm m2, e1, e2] at hrun
  exact ⟨_, w3, hrun, hO⟩
set_option maxHeartbeats 8000000 in
set_option maxRecDepth 20000 in
theorem spans_any (l : List Iv) (v : Value) (w : World) (hl : HasI w v l) (hok : l.all okI = true) (hlen : l.length ≤ 1024) :
    Calls Try.prog 55 #[v] w fun e w' => ∃ u, e = .returned u ∧ Own1 w w' 115 u (l.map toS) := by
  obtain ⟨o, c, rfl, hc1, hc2⟩ := HasRow.slice hl
  have HR : Hid (∀ wr : World, Below w.heap.size w wr → HasI wr (.slice o l.length c) l) := fun wr hb => hl.keep hb
  have HOK : Hid (∀ x ∈ l, okI x = true) := List.all_eq_true.1 hok
  obtain ⟨n, hn⟩ : ∃ n, n = l.length := ⟨_, rfl⟩
  have HN : Hid (n = l.length) := hn
  rw [← hn] at HR hc1 hlen ⊢
  have hni : (n : Int) ≤ 1024 := by omega
  clear hl hn hok
  obtain ⟨C, hC, hmk⟩ := make_S w n (by omega)
  obtain ⟨w1, hw1⟩ : ∃ w1, w1 = w.alloc (.cells C 115) := ⟨_, rfl⟩
  have H0 : Hid (Own1 w w1 115 (.slice (some ⟨w.heap.size, 0, none⟩) 0 n) ((l.take 0).map toS)) := ⟨by rw [hw1]; exact World.ownsRow_made w C n (Nat.le_refl _) (by unfold maxLen; omega) hC, by rw [hw1]; exact below_new (Below.refl _ _) _⟩
  rw [← hw1] at hmk
  obtain ⟨g0, hg0⟩ : ∃ g0, g0 = w.heap.size := ⟨_, rfl⟩
  rw [← hg0] at hmk H0
  clear hw1 hC hg0
  go_enter Try.func55, Try.ntmps55
  go_wp2_with fail
  go_loopw [3, 11] (fun u q wr => ∃ k : Nat, k ≤ n ∧ q = .int .i64 k ∧ Hid (Own1 w wr 115 u ((l.take k).map toS))) (fun _ q _ => n - (Go.RowKit.intOf q).toNat)
  case atStart => exact ⟨0, by omega, rfl, H0⟩
  case round =>
    obtain ⟨k, hk, rfl, HI⟩ := hrel
    have hI := HI.out
    by_cases hlt : k < n
    · have hkz : k < l.length := by rw [← HN.out]; exact hlt
      obtain ⟨g1, i1, rfl, hg1, a0, a1⟩ := HasI.cell (HR.out _ hI.bl) k hkz
      have HA : Hid ((l.take (k + 1)).map toS = (l.take k).map toS ++ [toS l[k]]) := by
        show _ = _
        rw [List.take_succ_eq_append_getElem hkz, List.map_append]; rfl
      have hki : (k : Int) < (n : Int) := by omega
      have htk : ((l.take k).map toS).length ≤ 1000000 := by rw [List.length_map, List.length_take]; omega
      have hxo := HOK.out l[k] (List.getElem_mem hkz)
      obtain ⟨x, hx⟩ : ∃ x : Iv, x = l[k] := ⟨_, rfl⟩
      rw [← hx] at HA a0 a1 hxo
      clear hx HI hg1
      go_upto_region 5 with fail
      obtain ⟨X, hX⟩ : ∃ X, X = wr.alloc (.cells #[.int .i64 x.1, .int .i64 x.2] 23) := ⟨_, rfl⟩
      have hbX : Below wr.heap.size wr X := by rw [hX]; exact below_new (Below.refl _ _) _
      have r0 : RowAt X wr.heap.size [.int .i64 x.1, .int .i64 x.2] 23 := by rw [hX]; exact RowAt.new _ _ _
      rw [← hX]
      have hO := hI.below hbX
      obtain ⟨gs, hgs⟩ : ∃ g, g = wr.heap.size := ⟨_, rfl⟩
      rw [← hgs] at r0 ⊢
      clear hX hbX a0 a1 hI hgs
      have hx3 := okI_iff.1 hxo
      have ca1 := fun (W : World) => addr_ok (t := x.1) (by omega) (by omega) W
      have ca2 := fun (W : World) => addr_ok (t := x.2) (by omega) (by omega) W
      have HAP : Hid (∀ W, Below X.heap.size X W → ∃ v' w3, (∀ ty, (Builtin.append_ #[88, 88] ty #[u3, .slice (some ⟨W.heap.size, 0, none⟩) 1 1]).run Try.prog (W.alloc (.cells #[.int .u64 0, .int .u64 x.1, .int .u64 0, .int .u64 x.2] 115)) = .ok v' w3) ∧ Own1 w w3 115 v' ((l.take k).map toS ++ [toS x])) := fun W hq => appS_iv (hO.below hq) x hxo htk
      clear hx3 hxo htk hO
      obtain ⟨p0, p1, pf⟩ := cells2 r0
      go_region_with (first
        | (go_at_call 57
           with_reducible refine (ca1 _).mono ?_
           rintro e w4 ⟨rfl, hb1'⟩
           have hb1 : Below X.heap.size X w4 := below2 (by (repeat' (first | exact Below.refl _ _ | refine Below.drew ?_))) hb1'
           obtain ⟨p0, p1, pf⟩ := cells2 (RowAt.below r0 hb1))
        | (go_at_call 57
           with_reducible refine (ca2 _).mono ?_
           rintro e w5 ⟨rfl, hb2⟩
           have hb3 : Below X.heap.size X w5 := below2 hb1 hb2
           obtain ⟨p0, p1, pf⟩ := cells2 (RowAt.below r0 hb3)
           obtain ⟨v', w6, hrun, hO2⟩ := HAP.out _ hb3))
      all_goals (have HI2 : Hid (Own1 w w6 115 v' ((l.take (k + 1)).map toS)) := (by have e9 := HA.out; show Own1 _ _ _ _ _; rw [e9]; exact hO2))
      all_goals clear HAP HA hO2 ca1 ca2
      all_goals go_wp2_with fail
      all_goals go_roundw
      all_goals first | (exact ⟨k + 1, by omega, by go_num, HI2⟩) | (simp [Go.RowKit.intOf]; omega)
    · have hkn : decide ((k : Int) < (n : Int)) = false := decide_eq_false (by omega)
      have hte : l.take k = l := by have := HN.out; exact List.take_of_length_le (by omega)
      have HI2 : Hid (Own1 w wr 115 u3 (l.map toS)) := by rw [hte] at HI; exact HI.out
      clear HI hI hte
      go_wp2_with fail
      go_ret
      exact ⟨_, rfl, HI2.out⟩
set_option maxHeartbeats 8000000 in
set_option maxRecDepth 20000 in
theorem told_any (l : List Sp) (v : Value) (w : World) (hl : HasSps w v l) (ht : Tms l) (hlen : l.length ≤ 1000000) :
    Calls Try.prog 53 #[v, .int .i64 0] w fun e w' => ∃ u, e = .returned (.tuple #[u, .int .i64 0]) ∧ OwnI w w' u (l.map ofS) := by
  obtain ⟨o, c, rfl, hc1, hc2⟩ := HasRow.slice hl
  have HR : Hid (∀ wr : World, Below w.heap.size w wr → HasSps wr (.slice o l.length c) l) := fun wr hb => hl.keep hb
  have HT : Hid (Tms l) := ht
  obtain ⟨n, hn⟩ : ∃ n, n = l.length := ⟨_, rfl⟩
  have HN : Hid (n = l.length) := hn
  rw [← hn] at HR hc1 hlen ⊢
  have hni : (n : Int) ≤ 1000000 := by omega
  clear hl hn ht
  obtain ⟨w1, hmk, hm0⟩ := makeI w n (by omega)
  have H0 : Hid (OwnI w w1 (.slice (some ⟨w.heap.size, 0, none⟩) 0 n) ((l.take 0).map ofS)) := hm0
  obtain ⟨g0, hg0⟩ : ∃ g0, g0 = w.heap.size := ⟨_, rfl⟩
  rw [← hg0] at hmk H0
  clear hg0 hm0
  go_enter Try.func53, Try.ntmps53
  go_wp2_with fail
  go_loopw [6, 17] (fun u q wr => ∃ k : Nat, k ≤ n ∧ q = .int .i64 k ∧ Hid (OwnI w wr u ((l.take k).map ofS))) (fun _ q _ => n - (Go.RowKit.intOf q).toNat)
  case atStart => exact ⟨0, by omega, rfl, H0⟩
  case round =>
    obtain ⟨k, hk, rfl, HI⟩ := hrel
    have hI := HI.out
    by_cases hlt : k < n
    · have hkz : k < l.length := by rw [← HN.out]; exact hlt
      obtain ⟨g1, i1, rfl, hg1, a0, a1, a2, a3⟩ := HasSps.cell (HR.out _ hI.bl) k hkz
      have HA : Hid ((l.take (k + 1)).map ofS = (l.take k).map ofS ++ [ofS l[k]]) := by
        show _ = _
        rw [List.take_succ_eq_append_getElem hkz, List.map_append]; rfl
      have hki : (k : Int) < (n : Int) := by omega
      have htk : ((l.take k).map ofS).length + [ofS l[k]].length ≤ 1000000 := by rw [List.length_map, List.length_take]; simp only [List.length_cons, List.length_nil]; omega
      have hxt := HT.out l[k] (List.getElem_mem hkz)
      obtain ⟨s, hs⟩ : ∃ s : Sp, s = l[k] := ⟨_, rfl⟩
      rw [← hs] at HA a0 a1 a2 a3 hxt htk
      have hw1 : IntKind.i64.wrap (loN s.1 : Int) = (s.1 : Int) := by rw [lo_tm (by omega), IntKind.wrap_i64]; unfold MaxT at hxt; omega
      have hw2 : IntKind.i64.wrap (loN s.2 : Int) = (s.2 : Int) := by rw [lo_tm (by omega), IntKind.wrap_i64]; unfold MaxT at hxt; omega
      clear hs HI hg1 hxt
      go_upto_region 7 with fail
      obtain ⟨X, hX⟩ : ∃ X, X = wr.alloc (.cells #[.int .u64 (hiN s.1 : Int), .int .u64 (loN s.1 : Int), .int .u64 (hiN s.2 : Int), .int .u64 (loN s.2 : Int)] 115) := ⟨_, rfl⟩
      have hbX : Below wr.heap.size wr X := by rw [hX]; exact below_new (Below.refl _ _) _
      have r0 : RowAt X wr.heap.size [.int .u64 (hiN s.1 : Int), .int .u64 (loN s.1 : Int), .int .u64 (hiN s.2 : Int), .int .u64 (loN s.2 : Int)] 115 := by rw [hX]; exact RowAt.new _ _ _
      rw [← hX]
      have hO := hI.below hbX
      obtain ⟨gs, hgs⟩ : ∃ g, g = wr.heap.size := ⟨_, rfl⟩
      rw [← hgs] at r0 ⊢
      clear hX hbX a0 a1 a2 a3 hI hgs
      obtain ⟨v', w6, hrun, hO2, _⟩ := appI (hO.below (below_new (Below.refl _ X) (.cells #[.int .i64 (s.1 : Int), .int .i64 (s.2 : Int)] 23))) (litI X (ofS s) 23) htk
      have HI2 : Hid (OwnI w w6 v' ((l.take (k + 1)).map ofS)) := by
        show OwnI _ _ _ _
        rw [HA.out]; exact hO2
      obtain ⟨p0, p1, p2, p3, pf⟩ := cells4 r0
      clear HA hO2 htk hO r0
      go_wp2_with fail
      go_roundw
      case rel => exact ⟨k + 1, by omega, by go_num, HI2⟩
      case measure => simp [Go.RowKit.intOf]; omega
    · have hkn : decide ((k : Int) < (n : Int)) = false := decide_eq_false (by omega)
      have hte : l.take k = l := by have := HN.out; exact List.take_of_length_le (by omega)
      have HI2 : Hid (OwnI w wr u6 (l.map ofS)) := by rw [hte] at HI; exact HI.out
      clear HI hI hte
      go_wp2_with fail
      go_ret2
      exact ⟨_, rfl, HI2.out⟩
theorem told_bad (v : Value) (why : Int) (w : World) (h : why = 2 ∨ why = 11) :
    Calls Try.prog 53 #[v, .int .i64 why] w fun e w' => e = .returned (.tuple #[.slice none 0 0, .int .i64 why]) ∧ w' = w := by
  rcases h with rfl | rfl
  · go_enter Try.func53, Try.ntmps53
    go_wp2_with fail
    go_ret2
    exact ⟨rfl, rfl⟩
  · go_enter Try.func53, Try.ntmps53
    go_wp2_with fail
    go_ret2
    exact ⟨rfl, rfl⟩
end Go.Proofs.Ytmkbijnndbgjgaa.Iv
namespace Go.Proofs.Ytmkbijnndbgjgaa.Iv
open Go.RowKit Go.Shelf
open Go.Proofs.Ytmkbijnndbgjgaa.Lk (HasRow hasRow_own addr_add)
open Go.Proofs.Ytmkbijnndbgjgaa.Sp (Sp inB inB_iff Row rowB row_ext okS okS_iff okB okB_iff topN chk HasSps HasSps.keep Own1 Own1.has FitS ok_fit AnsIs check_any or_any and_any make_any has_any hasE)
open Go.Proofs.Ytmkbijnndbgjgaa.Addr (hiN loN adV rightB wideN RowAt below2 below_drew below_new bset RowAt.lt RowAt.cell RowAt.frozen RowAt.below RowAt.drew RowAt.new RowAt.alloc cells2 cells4)
theorem fit_to {l : List Iv} (h : l.all okI = true) : ∀ s ∈ l.map toS, FitS s := fun s hs => by
  obtain ⟨x, hx, rfl⟩ := List.mem_map.1 hs
  exact ok_fit (okS_to (List.all_eq_true.1 h x hx))
set_option maxHeartbeats 2000000 in
theorem chk_any (l : List Iv) (v : Value) (w : World) (hl : HasI w v l) :
    Calls Try.prog 51 #[v] w fun e w' => e = .returned (.int .i64 (chk (okJ l))) ∧ Below w.heap.size w w' := by
  obtain ⟨o, c, rfl, hc1, hc2⟩ := HasRow.slice hl
  by_cases hlen : 1024 < l.length
  · have HV : Hid (chk (okJ l) = 2) := by
      show _ = _
      have : okB true (l.map toS) = false := by unfold okB; rw [List.length_map, decide_eq_false (by omega)]; rfl
      unfold okJ; rw [this, Bool.and_false]; rfl
    have hq1 : decide ((1024 : Int) < (l.length : Int)) = true := decide_eq_true (by omega)
    have hq2 : decide (1024 < l.length) = true := decide_eq_true hlen
    generalize chk (okJ l) = R at *
    generalize l.length = n at *
    clear hl
    go_enter Try.func51, Try.ntmps51
    go_wp2_with fail
    go_ret
    exact ⟨by rw [HV.out]; rfl, Below.refl _ _⟩
  · have hq1 : decide ((1024 : Int) < (l.length : Int)) = false := decide_eq_false (by omega)
    have hq2 : decide (1024 < l.length) = false := decide_eq_false hlen
    have cw := conWrong_any l _ w hl
    cases hok : l.all okI
    · have HV : Hid (chk (okJ l) = 2) := by show _ = _; unfold okJ; rw [hok, Bool.false_and]; rfl
      rw [hok] at cw
      generalize chk (okJ l) = R at *
      generalize l.length = n at *
      clear hl hok
      go_enter Try.func51, Try.ntmps51
      go_wp2_with fail
      go_at_call 65; refine cw.mono ?_; rintro e w2 ⟨rfl, hb⟩
      go_wp2_with fail
      go_ret
      exact ⟨by rw [HV.out]; rfl, hb⟩
    · have HV : Hid (chk (okJ l) = chk (okB true (l.map toS))) := by show _ = _; unfold okJ; rw [hok, Bool.true_and]
      rw [hok] at cw
      have csp := fun (W : World) (hq : Below w.heap.size w W) => spans_any l _ W (hl.keep hq) hok (by omega)
      have cck := fun (u : Value) (W : World) (h : HasSps W u (l.map toS)) => check_any true (l.map toS) u W h (fit_to hok)
      generalize chk (okJ l) = R at *
      generalize chk (okB true (l.map toS)) = R2 at *
      generalize l.length = n at *
      clear hl hok
      go_enter Try.func51, Try.ntmps51
      go_wp2_with fail
      go_at_call 65; refine cw.mono ?_; rintro e w2 ⟨rfl, hb⟩
      clear cw
      go_wp2_with fail
      go_at_call 55; refine (csp _ hb).mono ?_; rintro e w3 ⟨u, rfl, hO⟩
      have hb3 := below2 hb hO.bl
      have hu := hO.has
      obtain ⟨ou, cu, rfl, _, _⟩ := HasRow.slice hu
      have cc := cck _ _ hu
      clear hO csp cck
      generalize (l.map toS).length = n2 at *
      go_wp2_with fail
      go_at_call 68; refine cc.mono ?_; rintro e w4 ⟨rfl, hb4⟩
      have hb5 := below2 hb3 hb4
      clear cc
      go_wp2_with fail
      go_ret
      exact ⟨by rw [HV.out]; rfl, hb5⟩
set_option maxHeartbeats 4000000 in
set_option maxRecDepth 20000 in
theorem chkAll2_any (b : Nat) (la lb : List Iv) (va vb : Value) (w : World) (hb : b < w.heap.size) (h0 : w.cell? ⟨b, 0, none⟩ = some va) (h1 : w.cell? ⟨b, 1, none⟩ = some vb)
    (ha : HasI w va la) (hbb : HasI w vb lb) :
    Calls Try.prog 52 #[.slice (some ⟨b, 0, none⟩) 2 2] w fun e w' => e = .returned (.int .i64 (chk (okJ la && okJ lb))) ∧ Below w.heap.size w w' := by
  have ca := fun (W : World) (hq : Below w.heap.size w W) => chk_any la va W (ha.keep hq)
  have cb := fun (W : World) (hq : Below w.heap.size w W) => chk_any lb vb W (hbb.keep hq)
  obtain ⟨oa, cpa, rfl, _, _⟩ := HasRow.slice ha
  obtain ⟨ob, cpb, rfl, _, _⟩ := HasRow.slice hbb
  have HA : Hid (∀ A B, okJ la = A → okJ lb = B → chk (okJ la && okJ lb) = chk (A && B)) := fun A B h1 h2 => by rw [h1, h2]
  generalize chk (okJ la && okJ lb) = R at *
  generalize okJ la = A at *
  generalize okJ lb = B at *
  generalize la.length = na at *
  generalize lb.length = nb at *
  clear ha hbb
  go_enter Try.func52, Try.ntmps52
  go_wp2_with fail
  refine wp_loop_rounds 3 ?_
  rw [rounds_succ]
  go_wp2_with fail
  go_at_call 51; refine (ca _ (by first | exact Below.refl _ _ | exact below_drew (Below.refl _ _))).mono ?_; rintro e w1 ⟨rfl, hb1⟩
  have hw1 : Below w.heap.size w w1 := hb1
  have y1 := (hb1.cell (p := ⟨b, 1, none⟩) hb).trans h1
  clear ca
  cases A
  · have HV : Hid (R = 2) := HA.out false B rfl rfl
    clear HA
    unfold chk
    go_wp2_with fail
    go_ret
    exact ⟨by rw [HV.out]; rfl, hw1⟩
  · unfold chk
    simp only [if_true]
    go_wp2_with fail
    rw [rounds_succ]
    go_wp2_with fail
    go_at_call 51; refine (cb _ hw1).mono ?_; rintro e w2 ⟨rfl, hb2⟩
    have hw2 := below2 hw1 hb2
    cases B
    · have HV : Hid (R = 2) := HA.out true false rfl rfl
      clear HA
      unfold chk
      go_wp2_with fail
      go_ret
      exact ⟨by rw [HV.out]; rfl, hw2⟩
    · have HV : Hid (R = 0) := HA.out true true rfl rfl
      clear HA
      unfold chk
      simp only [if_true]
      go_wp2_with fail
      rw [rounds_succ]
      go_wp2_with fail
      go_ret
      exact ⟨by rw [HV.out]; rfl, hw2⟩
/-- a row of times is answered, or why there is none -/
def SetI (ok : Bool) (m : Nat → Bool) (bd : Nat) (R : List Sp) (why : Int) : Prop := (ok = false → why = 2 ∧ R = []) ∧ (ok = true → (why = 0 ∧ Row true R ∧ Tms R ∧ (∀ x, inB R x = m x) ∧ R.length ≤ 1024 ∧ R.length ≤ bd) ∨ (why = 11 ∧ R = [] ∧ ∃ L, Row true L ∧ (∀ x, inB L x = m x) ∧ 1024 < L.length ∧ L.length ≤ bd))
def PostI (w : World) (P : List Sp → Int → Prop) (e : Ending) (w' : World) : Prop := ∃ u R, ∃ why : Int, e = .returned (.tuple #[u, .int .i64 why]) ∧ HasI w' u (R.map ofS) ∧ Below w.heap.size w w' ∧ P R why
theorem setI_same {ok : Bool} {m : Nat → Bool} {b1 b2 : Nat} {R S : List Sp} {y z : Int} (h : SetI ok m b1 R y) (g : SetI ok m b2 S z) : R = S ∧ y = z := by
  cases ok
  · obtain ⟨a1, a2⟩ := h.1 rfl
    obtain ⟨b1, b2⟩ := g.1 rfl
    subst a1 a2 b1 b2
    exact ⟨rfl, rfl⟩
  · rcases h.2 rfl with ⟨a1, a2, _, a3, a4, _⟩ | ⟨a1, a2, L, a3, a4, a5, _⟩ <;> rcases g.2 rfl with ⟨c1, c2, _, c3, c4, _⟩ | ⟨c1, c2, L2, c3, c4, c5, _⟩
    · have := row_ext a2 c2 (fun x => by rw [a3, c3])
      subst a1 c1 this
      exact ⟨rfl, rfl⟩
    · have := row_ext a2 c3 (fun x => by rw [a3, c4])
      subst this
      omega
    · have := row_ext a3 c2 (fun x => by rw [a4, c3])
      subst this
      omega
    · subst a1 a2 c1 c2
      exact ⟨rfl, rfl⟩
theorem setI_bad {m : Nat → Bool} {bd : Nat} : SetI false m bd [] 2 := ⟨fun _ => ⟨rfl, rfl⟩, fun h => by cases h⟩
/-- what told makes of span's answer -/
theorem told_set {w w1 : World} {ok : Bool} {bad : Int} {m : Nat → Bool} {bd : Nat} {e : Ending} (h : AnsIs true w ok bad m bd e w1) (hbad : ok = false → bad = 2) (hm : ∀ x, m x = true → x ≤ MaxT) :
    ∃ u why, e = .returned (.tuple #[u, .int .i64 why]) ∧ Below w.heap.size w w1 ∧ Calls Try.prog 53 #[u, .int .i64 why] w1 fun e2 w' => (∃ v, ∃ y : Int, e2 = .returned (.tuple #[v, .int .i64 y])) ∧ PostI w (SetI ok m bd) e2 w' := by
  obtain ⟨u, R, why, e1, hO, h1, h2⟩ := h
  refine ⟨u, why, e1, hO.bl, ?_⟩
  cases ok
  · obtain ⟨a1, a2⟩ := h1 rfl
    have a3 := hbad rfl
    subst a1 a2
    refine (told_bad u why w1 (.inl a3)).mono ?_
    rintro e w2 ⟨rfl, rfl⟩
    subst a3
    exact ⟨⟨_, _, rfl⟩, _, [], 2, rfl, hasI_nil _, hO.bl, setI_bad⟩
  · rcases h2 rfl with ⟨a1, a2, a3, a4, a5⟩ | ⟨a1, a2, L, a3, a4, a5, a6⟩
    · subst a1
      have ht : Tms R := tms_in a2.1 (fun x hx => hm x (by rw [← a3]; exact hx))
      refine (told_any R u w1 hO.has ht (by omega)).mono ?_
      rintro e w2 ⟨v, rfl, hI⟩
      exact ⟨⟨_, _, rfl⟩, v, R, 0, rfl, hI.has, below2 hO.bl hI.bl, ⟨(fun h => by cases h), fun _ => .inl ⟨rfl, a2, ht, a3, a4, a5⟩⟩⟩
    · subst a1 a2
      refine (told_bad u 11 w1 (.inr rfl)).mono ?_
      rintro e w2 ⟨rfl, rfl⟩
      exact ⟨⟨_, _, rfl⟩, _, [], 11, rfl, hasI_nil _, hO.bl, ⟨(fun h => by cases h), fun _ => .inr ⟨rfl, rfl, L, a3, a4, a5, a6⟩⟩⟩
theorem tm_of {l : List Iv} (h : okJ l = true) {x : Nat} (hx : inB (l.map toS) x = true) : x ≤ MaxT := in_tms (tms_to ((Bool.and_eq_true _ _).mp h).1) hx
set_option maxHeartbeats 4000000 in
set_option maxRecDepth 20000 in
theorem orI_any (la lb : List Iv) (va vb : Value) (w : World) (ha : HasI w va la) (hb : HasI w vb lb) :
    Calls Try.prog 25 #[va, vb] w (PostI w (SetI (okJ la && okJ lb) (fun x => inB (la.map toS) x || inB (lb.map toS) x) (la.length + lb.length))) := by
  obtain ⟨oa, ca, rfl, _, _⟩ := HasRow.slice ha
  obtain ⟨ob, cb, rfl, _, _⟩ := HasRow.slice hb
  obtain ⟨X, hX⟩ : ∃ X, X = w.alloc (.cells #[.slice oa la.length ca, .slice ob lb.length cb] 38) := ⟨_, rfl⟩
  have hB : Below w.heap.size w X := by rw [hX]; exact below_new (Below.refl _ _) _
  have rx : RowAt X w.heap.size [.slice oa la.length ca, .slice ob lb.length cb] 38 := by rw [hX]; exact RowAt.new _ _ _
  have cc := chkAll2_any w.heap.size la lb _ _ X rx.lt (rx.cell 0) (rx.cell 1) (ha.keep hB) (hb.keep hB)
  clear rx
  cases hok : (okJ la && okJ lb)
  · rw [hok] at cc
    generalize la.length = na at *
    generalize lb.length = nb at *
    clear ha hb hok
    unfold chk at cc
    simp only [Bool.false_eq_true, if_false] at cc
    go_enter Try.func25, Try.ntmps25
    go_wp2_with fail
    rw [← hX]
    clear hX
    go_at_call 52; refine cc.mono ?_; rintro e w2 ⟨rfl, hb2⟩
    replace hB := below2 hB hb2
    go_wp2_with fail
    go_ret2
    exact ⟨_, [], 2, rfl, hasI_nil _, hB, setI_bad⟩
  · rw [hok] at cc
    have hab := (Bool.and_eq_true _ _).mp hok
    have oka := (Bool.and_eq_true _ _).mp (show (la.all okI && okB true (la.map toS)) = true from hab.1)
    have okb := (Bool.and_eq_true _ _).mp (show (lb.all okI && okB true (lb.map toS)) = true from hab.2)
    have lna := (okB_iff.1 oka.2).1
    have lnb := (okB_iff.1 okb.2).1
    rw [List.length_map] at lna lnb
    have cs1 := fun (W : World) (hq : Below w.heap.size w W) => spans_any la _ W (ha.keep hq) oka.1 lna
    have cs2 := fun (W : World) (hq : Below w.heap.size w W) => spans_any lb _ W (hb.keep hq) okb.1 lnb
    have HC : Hid (∀ (W : World) (u1 u2 : Value), HasSps W u1 (la.map toS) → HasSps W u2 (lb.map toS) → Calls Try.prog 54 #[.bool true, u1, u2] W (AnsIs true W true 2 (fun x => inB (la.map toS) x || inB (lb.map toS) x) (la.length + lb.length))) := fun W u1 u2 h1 h2 => by
      have := or_any true (la.map toS) (lb.map toS) u1 u2 W h1 h2 (fit_to oka.1) (fit_to okb.1)
      rw [oka.2, okb.2, List.length_map, List.length_map] at this
      exact this
    have HM : Hid (∀ x, (fun x => inB (la.map toS) x || inB (lb.map toS) x) x = true → x ≤ MaxT) := fun x hx => by
      have hx : (inB (la.map toS) x || inB (lb.map toS) x) = true := hx
      cases h1 : inB (la.map toS) x
      · cases h2 : inB (lb.map toS) x
        · rw [h1, h2] at hx; cases hx
        · exact tm_of hab.2 h2
      · exact tm_of hab.1 h1
    generalize (fun x => inB (la.map toS) x || inB (lb.map toS) x) = m at HC HM ⊢
    clear ha hb hok hab oka okb
    unfold chk at cc
    simp only [if_true] at cc
    generalize la.length = na at *
    generalize lb.length = nb at *
    go_enter Try.func25, Try.ntmps25
    go_wp2_with fail
    rw [← hX]
    clear hX
    go_at_call 52; refine cc.mono ?_; rintro e w2 ⟨rfl, hb2⟩
    replace hB := below2 hB hb2
    clear cc hb2
    go_wp2_with fail
    go_at_call 55; refine (cs1 _ hB).mono ?_; rintro e w3 ⟨u1, rfl, hO1⟩
    replace hB := below2 hB hO1.bl
    have hu1 := hO1.has
    clear hO1 cs1
    go_wp2_with fail
    go_at_call 55; refine (cs2 _ hB).mono ?_; rintro e w4 ⟨u2, rfl, hO2⟩
    replace hB := below2 hB hO2.bl
    have hu2 := hO2.has
    replace hu1 := hu1.keep hO2.bl
    clear hO2 cs2
    have cor := HC.out _ _ _ hu1 hu2
    clear HC hu1 hu2
    go_wp2_with fail
    go_at_call 54; refine cor.mono ?_; rintro e w5 hA
    obtain ⟨u5, why, rfl, hb5, ct⟩ := told_set hA (fun h => by cases h) HM.out
    have hB5 := below2 hB hb5
    have HB : Hid (Below w.heap.size w w4) := hB
    clear hA cor HM hB
    go_wp2_with fail
    go_at_call 53; refine ct.mono ?_; rintro e w6 ⟨⟨v, y, rfl⟩, hP⟩
    have HP : Hid (PostI w (SetI true m (na + nb)) (.returned (.tuple #[v, .int .i64 y])) w6) := by
      obtain ⟨a1, a2, a3, a4, a5, a6, a7⟩ := hP
      exact ⟨a1, a2, a3, a4, a5, below2 HB.out a6, a7⟩
    clear hP ct
    go_wp2_with fail
    go_ret2
    exact HP.out
set_option maxHeartbeats 4000000 in
set_option maxRecDepth 20000 in
theorem andI_any (la lb : List Iv) (va vb : Value) (w : World) (ha : HasI w va la) (hb : HasI w vb lb) :
    Calls Try.prog 28 #[va, vb] w (PostI w (SetI (okJ la && okJ lb) (fun x => inB (la.map toS) x && inB (lb.map toS) x) (la.length + lb.length))) := by
  obtain ⟨oa, ca, rfl, _, _⟩ := HasRow.slice ha
  obtain ⟨ob, cb, rfl, _, _⟩ := HasRow.slice hb
  obtain ⟨X, hX⟩ : ∃ X, X = w.alloc (.cells #[.slice oa la.length ca, .slice ob lb.length cb] 38) := ⟨_, rfl⟩
  have hB : Below w.heap.size w X := by rw [hX]; exact below_new (Below.refl _ _) _
  have rx : RowAt X w.heap.size [.slice oa la.length ca, .slice ob lb.length cb] 38 := by rw [hX]; exact RowAt.new _ _ _
  have cc := chkAll2_any w.heap.size la lb _ _ X rx.lt (rx.cell 0) (rx.cell 1) (ha.keep hB) (hb.keep hB)
  clear rx
  cases hok : (okJ la && okJ lb)
  · rw [hok] at cc
    generalize la.length = na at *
    generalize lb.length = nb at *
    clear ha hb hok
    unfold chk at cc
    simp only [Bool.false_eq_true, if_false] at cc
    go_enter Try.func28, Try.ntmps28
    go_wp2_with fail
    rw [← hX]
    clear hX
    go_at_call 52; refine cc.mono ?_; rintro e w2 ⟨rfl, hb2⟩
    replace hB := below2 hB hb2
    go_wp2_with fail
    go_ret2
    exact ⟨_, [], 2, rfl, hasI_nil _, hB, setI_bad⟩
  · rw [hok] at cc
    have hab := (Bool.and_eq_true _ _).mp hok
    have oka := (Bool.and_eq_true _ _).mp (show (la.all okI && okB true (la.map toS)) = true from hab.1)
    have okb := (Bool.and_eq_true _ _).mp (show (lb.all okI && okB true (lb.map toS)) = true from hab.2)
    have lna := (okB_iff.1 oka.2).1
    have lnb := (okB_iff.1 okb.2).1
    rw [List.length_map] at lna lnb
    have cs1 := fun (W : World) (hq : Below w.heap.size w W) => spans_any la _ W (ha.keep hq) oka.1 lna
    have cs2 := fun (W : World) (hq : Below w.heap.size w W) => spans_any lb _ W (hb.keep hq) okb.1 lnb
    have HC : Hid (∀ (W : World) (u1 u2 : Value), HasSps W u1 (la.map toS) → HasSps W u2 (lb.map toS) → Calls Try.prog 61 #[.bool true, u1, u2] W (AnsIs true W true 2 (fun x => inB (la.map toS) x && inB (lb.map toS) x) (la.length + lb.length))) := fun W u1 u2 h1 h2 => by
      have := and_any true (la.map toS) (lb.map toS) u1 u2 W h1 h2 (fit_to oka.1) (fit_to okb.1)
      rw [oka.2, okb.2, List.length_map, List.length_map] at this
      exact this
    have HM : Hid (∀ x, (fun x => inB (la.map toS) x && inB (lb.map toS) x) x = true → x ≤ MaxT) := fun x hx => by
      have hx : (inB (la.map toS) x && inB (lb.map toS) x) = true := hx
      cases h1 : inB (la.map toS) x
      · cases h2 : inB (lb.map toS) x
        · rw [h1, h2] at hx; cases hx
        · exact tm_of hab.2 h2
      · exact tm_of hab.1 h1
    generalize (fun x => inB (la.map toS) x && inB (lb.map toS) x) = m at HC HM ⊢
    clear ha hb hok hab oka okb
    unfold chk at cc
    simp only [if_true] at cc
    generalize la.length = na at *
    generalize lb.length = nb at *
    go_enter Try.func28, Try.ntmps28
    go_wp2_with fail
    rw [← hX]
    clear hX
    go_at_call 52; refine cc.mono ?_; rintro e w2 ⟨rfl, hb2⟩
    replace hB := below2 hB hb2
    clear cc hb2
    go_wp2_with fail
    go_at_call 55; refine (cs1 _ hB).mono ?_; rintro e w3 ⟨u1, rfl, hO1⟩
    replace hB := below2 hB hO1.bl
    have hu1 := hO1.has
    clear hO1 cs1
    go_wp2_with fail
    go_at_call 55; refine (cs2 _ hB).mono ?_; rintro e w4 ⟨u2, rfl, hO2⟩
    replace hB := below2 hB hO2.bl
    have hu2 := hO2.has
    replace hu1 := hu1.keep hO2.bl
    clear hO2 cs2
    have cor := HC.out _ _ _ hu1 hu2
    clear HC hu1 hu2
    go_wp2_with fail
    go_at_call 61; refine cor.mono ?_; rintro e w5 hA
    obtain ⟨u5, why, rfl, hb5, ct⟩ := told_set hA (fun h => by cases h) HM.out
    have hB5 := below2 hB hb5
    have HB : Hid (Below w.heap.size w w4) := hB
    clear hA cor HM hB
    go_wp2_with fail
    go_at_call 53; refine ct.mono ?_; rintro e w6 ⟨⟨v, y, rfl⟩, hP⟩
    have HP : Hid (PostI w (SetI true m (na + nb)) (.returned (.tuple #[v, .int .i64 y])) w6) := by
      obtain ⟨a1, a2, a3, a4, a5, a6, a7⟩ := hP
      exact ⟨a1, a2, a3, a4, a5, below2 HB.out a6, a7⟩
    clear hP ct
    go_wp2_with fail
    go_ret2
    exact HP.out
/-- of too many intervals there is no row, and of wrong ones -/
def MkI (l : List Iv) (R : List Sp) (why : Int) : Prop := (1024 < l.length ∧ R = [] ∧ why = 11) ∨ (l.length ≤ 1024 ∧ l.all okI = false ∧ R = [] ∧ why = 2) ∨ (l.length ≤ 1024 ∧ l.all okI = true ∧ why = 0 ∧ Row true R ∧ Tms R ∧ R.length ≤ l.length ∧ ∀ x, inB R x = inB (l.map toS) x)
def MkI2 (l : List Iv) (R : List Sp) (why : Int) : Prop := (1024 < l.length ∧ R = [] ∧ why = 11) ∨ (l.length ≤ 1024 ∧ l.all okI = false ∧ R = [] ∧ why = 2) ∨ (l.length ≤ 1024 ∧ l.all okI = true ∧ why = 0 ∧ Row true R ∧ Tms R ∧ ∀ x, inB R x = inB (l.map toS) x)
theorem mkI_same {l : List Iv} {R S : List Sp} {y z : Int} (h : MkI l R y) (g : MkI2 l S z) : R = S ∧ y = z := by
  rcases h with ⟨a1, a2, a3⟩ | ⟨a1, a2, a3, a4⟩ | ⟨a1, a2, a3, a4, _, _, a5⟩ <;> rcases g with ⟨b1, b2, b3⟩ | ⟨b1, b2, b3, b4⟩ | ⟨b1, b2, b3, b4, _, b5⟩
  · exact ⟨by rw [a2, b2], by rw [a3, b3]⟩
  · omega
  · omega
  · omega
  · exact ⟨by rw [a3, b3], by rw [a4, b4]⟩
  · rw [a2] at b2; cases b2
  · omega
  · rw [a2] at b2; cases b2
  · exact ⟨row_ext a4 b4 (fun x => by rw [a5, b5]), by rw [a3, b3]⟩
set_option maxHeartbeats 4000000 in
set_option maxRecDepth 20000 in
theorem makeI_any (l : List Iv) (v : Value) (w : World) (hl : HasI w v l) :
    Calls Try.prog 43 #[v] w (PostI w (MkI l)) := by
  obtain ⟨o, c, rfl, hc1, hc2⟩ := HasRow.slice hl
  by_cases hlen : 1024 < l.length
  · have hq1 : decide ((1024 : Int) < (l.length : Int)) = true := decide_eq_true (by omega)
    have hq2 : decide (1024 < l.length) = true := decide_eq_true hlen
    have HP : Hid (MkI l [] 11) := .inl ⟨hlen, rfl, rfl⟩
    generalize MkI l = P at *
    generalize l.length = n at *
    clear hl
    go_enter Try.func43, Try.ntmps43
    go_wp2_with fail
    go_ret2
    exact ⟨_, [], 11, rfl, hasI_nil _, Below.refl _ _, HP.out⟩
  · have hq1 : decide ((1024 : Int) < (l.length : Int)) = false := decide_eq_false (by omega)
    have hq2 : decide (1024 < l.length) = false := decide_eq_false hlen
    have cw := conWrong_any l _ w hl
    cases hok : l.all okI
    · have HP : Hid (MkI l [] 2) := .inr (.inl ⟨by omega, hok, rfl, rfl⟩)
      rw [hok] at cw
      generalize MkI l = P at *
      generalize l.length = n at *
      clear hl hok
      go_enter Try.func43, Try.ntmps43
      go_wp2_with fail
      go_at_call 65; refine cw.mono ?_; rintro e w2 ⟨rfl, hb⟩
      go_wp2_with fail
      go_ret2
      exact ⟨_, [], 2, rfl, hasI_nil _, hb, HP.out⟩
    · rw [hok] at cw
      have csp := fun (W : World) (hq : Below w.heap.size w W) => spans_any l _ W (hl.keep hq) hok (by omega)
      have HC : Hid (∀ (u : Value) (W : World), HasSps W u (l.map toS) → Calls Try.prog 66 #[.bool true, u] W (AnsIs true W true 2 (fun x => inB (l.map toS) x) l.length)) := fun u W h => by
        have := make_any true (l.map toS) u W h (fit_to hok) (by rw [List.length_map]; omega)
        rw [List.length_map, show (l.map toS).all (okS true) = true from List.all_eq_true.2 fun s hs => by
          obtain ⟨x, hx, rfl⟩ := List.mem_map.1 hs
          exact okS_to (List.all_eq_true.1 hok x hx)] at this
        exact this
      have HM : Hid (∀ x, (fun x => inB (l.map toS) x) x = true → x ≤ MaxT) := fun x hx => in_tms (tms_to hok) hx
      have HP : Hid (∀ R why, SetI true (fun x => inB (l.map toS) x) l.length R why → MkI l R why) := fun R why h => by
        rcases h.2 rfl with ⟨a1, a2, a3, a4, a5, a6⟩ | ⟨a1, a2, L, a3, a4, a5, a6⟩
        · exact .inr (.inr ⟨by omega, hok, a1, a2, a3, a6, a4⟩)
        · omega
      generalize (fun x => inB (l.map toS) x) = m at *
      generalize MkI l = P at *
      generalize l.length = n at *
      clear hl hok
      go_enter Try.func43, Try.ntmps43
      go_wp2_with fail
      go_at_call 65; refine cw.mono ?_; rintro e w2 ⟨rfl, hb⟩
      clear cw
      go_wp2_with fail
      go_at_call 55; refine (csp _ hb).mono ?_; rintro e w3 ⟨u, rfl, hO⟩
      have hB := below2 hb hO.bl
      have cc := HC.out _ _ hO.has
      clear hO csp HC hb
      go_wp2_with fail
      go_at_call 66; refine cc.mono ?_; rintro e w5 hA
      obtain ⟨u5, why, rfl, hb5, ct⟩ := told_set hA (fun h => by cases h) HM.out
      have HB : Hid (Below w.heap.size w w3) := hB
      clear hA cc HM hB
      go_wp2_with fail
      go_at_call 53; refine ct.mono ?_; rintro e w6 ⟨⟨v, y, rfl⟩, hP⟩
      have HP2 : Hid (PostI w P (.returned (.tuple #[v, .int .i64 y])) w6) := by
        obtain ⟨a1, a2, a3, a4, a5, a6, a7⟩ := hP
        exact ⟨a1, a2, a3, a4, a5, below2 HB.out a6, HP.out _ _ a7⟩
      clear hP ct HP
      go_wp2_with fail
      go_ret2
      exact HP2.out
/-- whether a time is in a row, or why it can't be told -/
def hasJ (l : List Iv) (t : Int) : Bool × Int := if okJ l then (inI l t, 0) else (false, 2)
theorem hasE_of {l : List Iv} (h : okJ l = true) {t : Int} (ht : FitT t) : hasE true (l.map toS) (IntKind.u64.wrap t).toNat = (inI l t, 0) := by
  have hab := (Bool.and_eq_true _ _).mp (show (l.all okI && okB true (l.map toS)) = true from h)
  have hw : IntKind.u64.wrap t = t % 18446744073709551616 := IntKind.wrap_u64 t
  unfold FitT at ht
  have hr : rightB true (IntKind.u64.wrap t).toNat = true := (Sp.top_lt true _).2 (by rw [top6, hw]; omega)
  unfold hasE
  rw [hab.2, hr]
  show (inB _ _, (0 : Int)) = _
  congr 1
  by_cases h0 : 0 ≤ t
  · rw [inI_to hab.1 h0, hw, show t % 18446744073709551616 = t by omega]
  · rw [inI_neg hab.1 (by omega)]
    cases h1 : inB (l.map toS) (IntKind.u64.wrap t).toNat
    · rfl
    · have := in_tms (tms_to hab.1) h1
      unfold MaxT at this
      rw [hw] at this
      omega
set_option maxHeartbeats 2000000 in
theorem hasI_any (l : List Iv) (t : Int) (v : Value) (w : World) (hl : HasI w v l) (ht : FitT t) :
    Calls Try.prog 26 #[v, .int .i64 t] w fun e w' => e = .returned (.tuple #[.bool (hasJ l t).1, .int .i64 (hasJ l t).2]) ∧ Below w.heap.size w w' := by
  have ck := chk_any l v w hl
  obtain ⟨o, c, rfl, hc1, hc2⟩ := HasRow.slice hl
  cases hok : okJ l
  · have HV : Hid (hasJ l t = (false, 2)) := by show _ = _; unfold hasJ; rw [hok]; rfl
    rw [hok] at ck
    unfold chk at ck
    simp only [Bool.false_eq_true, if_false] at ck
    generalize hasJ l t = R at *
    generalize l.length = n at *
    clear hl hok
    go_enter Try.func26, Try.ntmps26
    go_wp2_with fail
    go_at_call 51; refine ck.mono ?_; rintro e w2 ⟨rfl, hb⟩
    go_wp2_with fail
    go_ret2
    exact ⟨by rw [HV.out]; rfl, hb⟩
  · have HV : Hid (hasJ l t = (inI l t, 0)) := by show _ = _; unfold hasJ; rw [hok]; rfl
    rw [hok] at ck
    unfold chk at ck
    simp only [if_true] at ck
    have hab := (Bool.and_eq_true _ _).mp (show (l.all okI && okB true (l.map toS)) = true from hok)
    have ln := (okB_iff.1 hab.2).1
    rw [List.length_map] at ln
    have csp := fun (W : World) (hq : Below w.heap.size w W) => spans_any l _ W (hl.keep hq) hab.1 ln
    have cad := fun (W : World) => address_any t W
    have hq : ∃ q : Nat, IntKind.u64.wrap t = (q : Int) ∧ q < 18446744073709551616 ∧ hasE true (l.map toS) q = (inI l t, 0) := by
      have h1 := hasE_of hok ht
      have h2 : IntKind.u64.wrap t = t % 18446744073709551616 := IntKind.wrap_u64 t
      exact ⟨(IntKind.u64.wrap t).toNat, by rw [h2]; omega, by rw [h2]; omega, h1⟩
    obtain ⟨q, hq1, hq2, hq3⟩ := hq
    rw [hq1] at cad
    have HC : Hid (∀ (u : Value) (W : World), HasSps W u (l.map toS) → Calls Try.prog 56 #[.bool true, u, .agg #[.int .u64 0, .int .u64 (q : Int)]] W fun e w' => e = .returned (.tuple #[.bool (inI l t), .int .i64 0]) ∧ Below W.heap.size W w') := fun u W h => by
      have := has_any true (l.map toS) u q W h (fit_to hab.1) (by omega)
      rw [hq3] at this
      unfold adV at this
      rw [show hiN q = 0 by unfold hiN; omega, show loN q = q by unfold loN; omega] at this
      exact this
    generalize hasJ l t = R at *
    generalize inI l t = B at *
    clear hq3 hq1 hok hab
    generalize l.length = n at *
    clear hl
    go_enter Try.func26, Try.ntmps26
    go_wp2_with fail
    go_at_call 51; refine ck.mono ?_; rintro e w2 ⟨rfl, hb⟩
    clear ck
    go_wp2_with fail
    go_at_call 55; refine (csp _ hb).mono ?_; rintro e w3 ⟨u, rfl, hO⟩
    have hB := below2 hb hO.bl
    have hu := hO.has
    clear hO csp hb
    go_wp2_with fail
    go_at_call 57; refine (cad _).mono ?_; rintro e w4 ⟨rfl, hb⟩
    replace hB := below2 hB hb
    have cc := HC.out _ _ (hu.keep hb)
    clear cad HC hu hb
    go_wp2_with fail
    go_at_call 56; refine cc.mono ?_; rintro e w5 ⟨rfl, hb⟩
    replace hB := below2 hB hb
    clear cc hb
    go_wp2_with fail
    go_ret2
    exact ⟨by rw [HV.out]; rfl, hB⟩
end Go.Proofs.Ytmkbijnndbgjgaa.Iv
namespace Go.Proofs.Ytmkbijnndbgjgaa.Iv
open Go.RowKit Go.Shelf
open Go.Proofs.Ytmkbijnndbgjgaa.Lk (HasRow hasRow_own addr_add)
open Go.Proofs.Ytmkbijnndbgjgaa.Sp (Sp inB inB_iff Row rowB row_ext okS okS_iff okB okB_iff topN chk grown_of)
open Go.Proofs.Ytmkbijnndbgjgaa.Addr (hiN loN adV rightB wideN RowAt below2 below_drew below_new bset RowAt.lt RowAt.cell RowAt.frozen RowAt.below RowAt.drew RowAt.new RowAt.alloc cells2 cells4)
attribute [local go_sem] Oper.semAt_some
attribute [-go_sem] Builtin.append_
/-- what there is of an interval ahead of, between and behind a row's, from a time on -/
def gapsL : Int → List Iv → Int → List Iv
  | fr, [], e => if fr ≤ e then [(fr, e)] else []
  | fr, x :: xs, e => (if fr ≤ min (x.1 - 1) e then [(fr, min (x.1 - 1) e)] else []) ++ gapsL (max fr (x.2 + 1)) xs e
theorem gaps_len (fr : Int) (l : List Iv) (e : Int) : (gapsL fr l e).length ≤ l.length + 1 := by
  induction l generalizing fr with
  | nil => unfold gapsL; split <;> simp
  | cons x xs ih =>
    unfold gapsL
    have := ih (max fr (x.2 + 1))
    rw [List.length_append, List.length_cons]
    split
    · simp only [List.length_cons, List.length_nil]; omega
    · simp only [List.length_nil]; omega
def rowK (W : World) (rb : Nat) : Option Nat := (W.cell? ⟨rb, 0, none⟩).bind Value.ownBlock
/-- all cells are kept but a variable's, and those of the row that the variable holds -/
def Kr (rb : Nat) (A B : World) : Prop := A.heap.size ≤ B.heap.size ∧ (∀ k o, A.heap[k]? = some o → o.isCells = true → k ≠ rb → rowK A rb ≠ some k → B.heap[k]? = some o) ∧ ∀ g, rowK B rb = some g → rowK A rb = some g ∨ (A.heap.size ≤ g ∧ g < B.heap.size)
theorem kr_t {rb : Nat} {A B C : World} (h : Kr rb A B) (k : Kr rb B C) : Kr rb A C := by
  refine ⟨Nat.le_trans h.1 k.1, fun j o h1 h2 h3 h4 => k.2.1 j o (h.2.1 j o h1 h2 h3 h4) h2 h3 (fun e => ?_), fun g hg => ?_⟩
  · rcases h.2.2 j e with e | ⟨e, _⟩
    · exact h4 e
    · have := (Array.getElem?_eq_some_iff.1 h1).1; omega
  · rcases k.2.2 g hg with e | ⟨e1, e2⟩
    · rcases h.2.2 g e with e | ⟨e1, e2⟩
      · exact .inl e
      · exact .inr ⟨e1, Nat.lt_of_lt_of_le e2 k.1⟩
    · exact .inr ⟨Nat.le_trans h.1 e1, e2⟩
theorem kr_refl {rb : Nat} {A : World} : Kr rb A A := ⟨Nat.le_refl _, fun _ _ h _ _ _ => h, fun g h => .inl h⟩
theorem kr_below {rb : Nat} {A B : World} (h : Below A.heap.size A B) (hr : rb < A.heap.size) : Kr rb A B := by
  have e : rowK B rb = rowK A rb := by unfold rowK; rw [h.cell (p := ⟨rb, 0, none⟩) hr]
  exact ⟨h.size, fun k o h1 _ _ _ => (h.block k (Array.getElem?_eq_some_iff.1 h1).1).trans h1, fun g hg => .inl (by rw [← e]; exact hg)⟩
theorem kr_b {rb n : Nat} (hn : rb < n) (W : World) (l : Nat) (o o' : Obj) (hl : n ≤ l) (h : W.heap[l]? = some o) (hc : o.isCells = false) (_ : o.isWalk = false) : Kr rb W (W.putObj l o') := by
  have e : rowK (W.putObj l o') rb = rowK W rb := by
    have hh : (W.putObj l o').heap[rb]? = W.heap[rb]? := World.putObj_heap_other (by omega)
    unfold rowK World.cell?
    simp only [hh]
  exact ⟨by simp, fun k p hp hpc _ _ => (World.putObj_heap_other (fun e => by subst e; rw [h] at hp; injection hp with hp; subst hp; rw [hc] at hpc; cases hpc)).trans hp, fun g hg => .inl (by rw [← e]; exact hg)⟩
theorem kr_row {rb : Nat} {A B : World} {t e : Nat} {cs : List Value} (h : Kr rb A B) (hr : RowAt A t cs e) (h1 : t ≠ rb) (h2 : rowK A rb ≠ some t) : RowAt B t cs e := h.2.1 t _ hr rfl h1 h2
theorem kr_cell {rb : Nat} {A B : World} {p : Addr} {v : Value} (h : Kr rb A B) (hv : A.cell? p = some v) (h1 : p.block ≠ rb) (h2 : rowK A rb ≠ some p.block) : B.cell? p = some v := by
  rw [← hv]
  unfold World.cell? at hv ⊢
  cases hb : A.heap[p.block]? with
  | none => rw [hb] at hv; cases hv
  | some o =>
    have hc : o.isCells = true := by
      rw [hb] at hv
      cases o <;> first | rfl | (simp at hv)
    rw [h.2.1 _ o hb hc h1 h2]
def encI (x : Iv) : Array Value := #[.agg #[.int .i64 x.1, .int .i64 x.2]]
theorem run_min (ats : Array TypeId) (ty : TypeId) (a b : Int) (W : World) : (Builtin.min_ ats ty #[.int .i64 a, .int .i64 b]).run Try.prog W = .ok (.int .i64 (min a b)) W := by
  simp [Builtin.min_, Builtin.min2, go_sem]
  split <;> omega
theorem run_max (ats : Array TypeId) (ty : TypeId) (a b : Int) (W : World) : (Builtin.max_ ats ty #[.int .i64 a, .int .i64 b]).run Try.prog W = .ok (.int .i64 (max a b)) W := by
  simp [Builtin.max_, Builtin.max2, go_sem]
  split <;> omega
theorem gaps_any (v : Value) (x : Iv) (w : World) (hv : ∃ o n c, v = .slice o n c) :
    Calls Try.prog 63 #[v, .agg #[.int .i64 x.1, .int .i64 x.2]] w fun e w' => e = .returned (.func (.func 83) #[] #[.pointer (some ⟨w.heap.size + 1, 0, none⟩), .pointer (some ⟨w.heap.size, 0, none⟩)]) ∧ w' = (w.alloc (.cells #[v] 38)).alloc (.cells #[.int .i64 x.1, .int .i64 x.2] 23) := by
  obtain ⟨o, n, c, rfl⟩ := hv
  go_enter Try.func63, Try.ntmps63
  go_wp2
  go_ret
  exact ⟨rfl, rfl⟩
set_option maxHeartbeats 8000000 in
set_option maxRecDepth 20000 in
theorem gaps1_stops (l : List Iv) (wi : Iv) (o : Option Addr) (cap n Bw Bl rb : Nat) (w : World) (hl : HasI w (.slice o l.length cap) l) (rw' : RowAt w Bw [.int .i64 wi.1, .int .i64 wi.2] 23) (rl : RowAt w Bl [.slice o l.length cap] 38)
    (hrb : rb < w.heap.size) (hnw : Bw ≠ rb) (hnl : Bl ≠ rb) (hno : ∀ a, o = some a → 0 < l.length → a.block ≠ rb) (hrow : rowK w rb = none) (hok : l.all okI = true) (hwi : okI wi = true) (hlen : l.length ≤ 1024) :
    SeqStopsK Fence.wide n Try.prog 83 #[.pointer (some ⟨Bw, 0, none⟩), .pointer (some ⟨Bl, 0, none⟩)] encI (Kr rb) (fun xs => xs = gapsL wi.1 l wi.2) (fun pre => pre.length ≤ (gapsL wi.1 l wi.2).length) (gapsL wi.1 l wi.2).length w := by
  intro lp J Jx W hW hJ hJx hY h0
  have hrbW : rb < W.heap.size := Nat.lt_of_lt_of_le hrb hW.size
  have hrowW : rowK W rb = none := by rw [← hrow]; unfold rowK; rw [hW.cell (p := ⟨rb, 0, none⟩) hrb]
  have hlW := hl.keep hW
  have HWC : Hid (∀ wr, Kr rb W wr → wr.cell? ⟨Bw, 0, none⟩ = some (.int .i64 wi.1) ∧ wr.cell? ⟨Bw, 1, none⟩ = some (.int .i64 wi.2) ∧ wr.cell? ⟨Bl, 0, none⟩ = some (.slice o l.length cap)) := fun wr hk => by
    have h1 := (rw'.below hW)
    have h2 := (rl.below hW)
    exact ⟨kr_cell hk (h1.cell 0) hnw (by rw [hrowW]; simp), kr_cell hk (h1.cell 1) hnw (by rw [hrowW]; simp), kr_cell hk (h2.cell 0) hnl (by rw [hrowW]; simp)⟩
  have HLC : Hid (∀ (j : Nat) (hj : j < l.length), ∃ b i, o = some ⟨b, i, none⟩ ∧ ∀ wr, Kr rb W wr → wr.cell? ⟨b, i + j * 2, none⟩ = some (.int .i64 l[j].1) ∧ wr.cell? ⟨b, i + j * 2 + 1, none⟩ = some (.int .i64 l[j].2)) := fun j hj => by
    obtain ⟨b, i, e, _, c0, c1⟩ := HasI.cell hlW j hj
    have hb := hno _ e (by omega)
    exact ⟨b, i, e, fun wr hk => ⟨kr_cell hk c0 hb (by rw [hrowW]; simp), kr_cell hk c1 hb (by rw [hrowW]; simp)⟩⟩
  have HOK : Hid (∀ x ∈ l, okI x = true) := List.all_eq_true.1 hok
  have HRK : Hid (∀ wr g, Kr rb W wr → rowK wr rb = some g → g < wr.heap.size) := fun wr g hk hg => by
    rcases hk.2.2 g hg with e | e
    · rw [hrowW] at e; cases e
    · exact e.2
  obtain ⟨m, hm⟩ : ∃ m, m = l.length := ⟨_, rfl⟩
  have HM : Hid (m = l.length) := hm
  rw [← hm] at HWC hlen
  have hw3 := okI_iff.1 hwi
  obtain ⟨a0, e0⟩ := wi
  simp only at HWC hw3 hY ⊢
  obtain ⟨full, hfull⟩ : ∃ full, full = gapsL a0 l e0 := ⟨_, rfl⟩
  rw [← hfull] at hY ⊢
  have HF0 : Hid (full = [] ++ gapsL a0 (l.drop 0) e0) := hfull
  have HY : Hid _ := hY
  have h00 : J [] W := h0
  have hmi : (m : Int) ≤ 1024 := by omega
  have HSZ : Hid (∀ wr, Kr rb W wr → rb < wr.heap.size) := fun wr hk => Nat.lt_of_lt_of_le hrbW hk.1
  have hmin := fun ats ty a b W => run_min ats ty a b W
  have hmax := fun ats ty a b W => run_max ats ty a b W
  clear hl hlW rw' rl hY h0 hfull hok hwi hm hrow hrowW hnw hnl hno hrb
  have hcW := HWC.out W kr_refl
  obtain ⟨d0, d1, d2⟩ := hcW
  show CallsIn Fence.wide n Try.prog 83 #[.func (.yield lp) #[] #[], .pointer (some ⟨Bw, 0, none⟩), .pointer (some ⟨Bl, 0, none⟩)] W _
  refine callsIn_of_wp Try.func83 rfl trivial ?_ rfl
  simp only [Try.ntmps83, List.size_toArray, List.length_cons, List.length_nil, Nat.reduceAdd, Nat.reduceSub, Array.replicate_succ, Array.replicate_zero, List.push_toArray, List.append_toArray, List.nil_append, List.cons_append]
  gi_wp2
  gi_loopw [4, 12] (fun f q wr => ∃ (j : Nat) (fr : Int) (pre : List Iv), j ≤ m ∧ f = .int .i64 fr ∧ q = .int .i64 (j : Int) ∧ (0 ≤ fr ∧ fr ≤ 1099511627777) ∧ Hid (full = pre ++ gapsL fr (l.drop j) e0) ∧ J pre wr ∧ Kr rb W wr) (fun _ q _ => m - (Go.RowKit.intOf q).toNat)
  case atStart => exact ⟨0, a0, [], by omega, rfl, rfl, by omega, HF0, h00, kr_refl⟩
  case round =>
    obtain ⟨j, fr, pre, hj, rfl, rfl, hfr, HF, hJs, hK⟩ := hrel
    clear HF0 d0 d1 d2
    obtain ⟨d0, d1, d2⟩ := HWC.out _ hK
    by_cases hlt : j < m
    · have hjz : j < l.length := by rw [← HM.out]; exact hlt
      obtain ⟨b, i, rfl, hcl⟩ := HLC.out j hjz
      obtain ⟨e1, e2⟩ := hcl wr hK
      have hxo := okI_iff.1 (HOK.out _ (List.getElem_mem hjz))
      have HD : Hid (l.drop j = l[j] :: l.drop (j + 1)) := List.drop_eq_getElem_cons hjz
      obtain ⟨x, hx⟩ : ∃ x : Iv, x = l[j] := ⟨_, rfl⟩
      rw [← hx] at e1 e2 hxo HD
      obtain ⟨x1, x2⟩ := x
      clear hx hcl
      simp only at e1 e2 hxo
      have hs := HSZ.out wr hK
      have hw1 : IntKind.i64.wrap (x1 - 1) = x1 - 1 := by rw [IntKind.wrap_i64]; omega
      have hw2 : IntKind.i64.wrap (x2 + 1) = x2 + 1 := by rw [IntKind.wrap_i64]; omega
      obtain ⟨mn, hmn⟩ : ∃ mn, mn = min (x1 - 1) e0 := ⟨_, rfl⟩
      obtain ⟨mx, hmx⟩ : ∃ mx, mx = max fr (x2 + 1) := ⟨_, rfl⟩
      have hmn2 : -1 ≤ mn ∧ mn ≤ 1099511627776 := by omega
      have hmx2 : 0 ≤ mx ∧ mx ≤ 1099511627777 := by omega
      have HG : Hid (gapsL fr (l.drop j) e0 = (if fr ≤ mn then [(fr, mn)] else []) ++ gapsL mx (l.drop (j + 1)) e0) := by
        show _ = _
        rw [HD.out, hmn, hmx]; rfl
      have hm1 : ∀ ats ty W, (Builtin.min_ ats ty #[.int .i64 (x1 - 1), .int .i64 e0]).run Try.prog W = .ok (.int .i64 mn) W := fun ats ty W => by rw [hmn]; exact run_min ats ty _ _ W
      have hm2 : ∀ ats ty W, (Builtin.max_ ats ty #[.int .i64 fr, .int .i64 (x2 + 1)]).run Try.prog W = .ok (.int .i64 mx) W := fun ats ty W => by rw [hmx]; exact run_max ats ty _ _ W
      clear hmn hmx hmin hmax HD
      obtain ⟨V, hV⟩ : ∃ V, V = wr.alloc (.cells #[.int .i64 x1, .int .i64 x2] 23) := ⟨_, rfl⟩
      have hbV : Below wr.heap.size wr V := by rw [hV]; exact below_new (Below.refl _ _) _
      have r6 : RowAt V wr.heap.size [.int .i64 x1, .int .i64 x2] 23 := by rw [hV]; exact RowAt.new _ _ _
      have hJV : J pre V := hJ pre wr V none hJs (grown_of hbV) (fun r e => by cases e)
      have hKV : Kr rb W V := kr_t hK (kr_below hbV hs)
      have hrv : rowK V rb ≠ some wr.heap.size := fun e => by
        have e3 : rowK V rb = rowK wr rb := by unfold rowK; rw [hbV.cell (p := ⟨rb, 0, none⟩) hs]
        rw [e3] at e
        have := HRK.out wr _ hK e
        omega
      have hsV : rb < V.heap.size := HSZ.out V hKV
      gi_upto_region 4 with fail
      rw [← hV]
      obtain ⟨g6, hg6⟩ : ∃ g, g = wr.heap.size := ⟨_, rfl⟩
      rw [← hg6] at r6 hrv hs ⊢
      have hne6 : g6 ≠ rb := by omega
      clear hg6 hV hbV hJs hK e1 e2 d0 d1 d2 hs
      obtain ⟨d0, d1, d2⟩ := HWC.out _ hKV
      obtain ⟨X, hX⟩ : ∃ X, X = V.alloc (.cells #[.int .i64 fr, .int .i64 mn] 23) := ⟨_, rfl⟩
      have hbX : Below V.heap.size V X := by rw [hX]; exact below_new (Below.refl _ _) _
      have r7 : RowAt X V.heap.size [.int .i64 fr, .int .i64 mn] 23 := by rw [hX]; exact RowAt.new _ _ _
      have hJX : J pre X := hJ pre V X none hJV (grown_of hbX) (fun r e => by cases e)
      have hKX : Kr rb W X := kr_t hKV (kr_below hbX hsV)
      have hrx : rowK X rb ≠ some g6 := fun e => by
        have e3 : rowK X rb = rowK V rb := by unfold rowK; rw [hbX.cell (p := ⟨rb, 0, none⟩) hsV]
        rw [e3] at e
        exact hrv e
      obtain ⟨q0, q1, qf⟩ := cells2 r6
      replace r6 := r6.below hbX
      gi_upto_region 5 with fail
      rw [← hX]
      clear hX hbX hJV hKV d0 d1 d2 hm1 hrv hsV q0 q1 qf
      obtain ⟨z0, z1, zf⟩ := cells2 r7
      by_cases hle : fr ≤ mn
      · have hd : decide (fr ≤ mn) = true := decide_eq_true hle
        have HF2 : Hid (full = (pre ++ [(fr, mn)]) ++ gapsL mx (l.drop (j + 1)) e0) := by
          show _ = _
          rw [HF.out, HG.out, if_pos hle, List.append_assoc]
        have hfl : (pre ++ [(fr, mn)]).length ≤ full.length := by rw [HF2.out]; simp
        obtain ⟨fn, tmps, assign, body, hy, hR⟩ := HY.out pre (fr, mn) X hJX (by rw [HF2.out]; simp)
        have hy2 : _ := hy
        unfold encI at hy2
        simp only at hy2
        clear hy HF HG
        gi_wp2
        refine ⟨fun h => by simp [Fence.wide] at h, ?_⟩
        refine hR.mono ?_
        rintro e W3 (⟨rfl, hJ3, hk3⟩ | ⟨rfl, hJx3⟩)
        · obtain ⟨y0, y1, yf⟩ := cells2 (kr_row hk3 r6 hne6 hrx)
          clear hy2 hR z0 z1 zf
          gi_wp2
          refine ⟨⟨j + 1, mx, pre ++ [(fr, mn)], by omega, by first | rfl | go_num, by go_num, hmx2, HF2, hJ3, kr_t hKX hk3⟩, ?_⟩
          simp [Go.RowKit.intOf]
          try omega
        · gi_wp2
          (try simp only [Exit.inBlock, Exit.then])
          refine bodyPost_ret (results_none rfl _ _ _) rfl ?_
          exact ⟨⟨_, rfl⟩, .inr ⟨_, hfl, hJx3⟩⟩
      · have hd : decide (fr ≤ mn) = false := decide_eq_false hle
        have HF2 : Hid (full = pre ++ gapsL mx (l.drop (j + 1)) e0) := by
          show _ = _
          rw [HF.out, HG.out, if_neg hle, List.nil_append]
        obtain ⟨y0, y1, yf⟩ := cells2 r6
        clear HF HG
        gi_wp2
        refine ⟨(fun f h => by simp at h), ?_⟩
        gi_wp2
        refine ⟨⟨j + 1, mx, pre, by omega, by first | rfl | go_num, by go_num, hmx2, HF2, hJX, hKX⟩, ?_⟩
        simp [Go.RowKit.intOf]
        try omega
    · have hjm : decide ((j : Int) < (m : Int)) = false := decide_eq_false (by omega)
      have hte : l.drop j = [] := List.drop_eq_nil_of_le (by have := HM.out; omega)
      have HG : Hid (full = pre ++ (if fr ≤ e0 then [(fr, e0)] else [])) := by
        show _ = _
        rw [HF.out, hte]; rfl
      clear HF hte hmin hmax
      by_cases hle : fr ≤ e0
      · have hd : decide (fr ≤ e0) = true := decide_eq_true hle
        have HF2 : Hid (full = pre ++ [(fr, e0)]) := by show _ = _; rw [HG.out, if_pos hle]
        have hfl : (pre ++ [(fr, e0)]).length ≤ full.length := by rw [HF2.out]; simp
        obtain ⟨fn, tmps, assign, body, hy, hR⟩ := HY.out pre (fr, e0) wr hJs (by rw [HF2.out]; simp)
        have hy2 : _ := hy
        unfold encI at hy2
        simp only at hy2
        clear hy HG
        gi_wp2
        refine ⟨fun h => by simp [Fence.wide] at h, ?_⟩
        refine hR.mono ?_
        rintro e W3 (⟨rfl, hJ3, hk3⟩ | ⟨rfl, hJx3⟩)
        · gi_wp2
          go_end0
          first | exact ⟨⟨_, rfl⟩, .inl ⟨_, HF2.out.symm, hJ3⟩⟩ | exact ⟨⟨_, rfl⟩, .inl (by rw [HF2.out]; exact hJ3)⟩
        · gi_wp2
          go_end0
          exact ⟨⟨_, rfl⟩, .inr ⟨_, hfl, hJx3⟩⟩
      · have hd : decide (fr ≤ e0) = false := decide_eq_false hle
        have HF2 : Hid (full = pre) := by show _ = _; rw [HG.out, if_neg hle, List.append_nil]
        clear HG
        gi_wp2
        go_end0
        first | exact ⟨⟨_, rfl⟩, .inl ⟨_, HF2.out.symm, hJs⟩⟩ | exact ⟨⟨_, rfl⟩, .inl (by rw [HF2.out]; exact hJs)⟩
end Go.Proofs.Ytmkbijnndbgjgaa.Iv
namespace Go.Proofs.Ytmkbijnndbgjgaa.Iv
open Go.RowKit
open Go.Proofs.Ytmkbijnndbgjgaa.Sp (Sp inB inB_iff Row rowB row_ext okS okS_iff okB okB_iff topN)
/-- a row of intervals that rises, with gaps -/
def Up2 (l : List Iv) : Prop := l.all okI = true ∧ l.Pairwise (fun x y => x.2 + 1 < y.1)
theorem up2_of {l : List Iv} (h : okJ l = true) : Up2 l := by
  have hab := (Bool.and_eq_true _ _).mp (show (l.all okI && okB true (l.map toS)) = true from h)
  refine ⟨hab.1, ?_⟩
  have hp := (okB_iff.1 hab.2).2.2
  rw [List.pairwise_map] at hp
  refine List.Pairwise.imp_of_mem (fun {x y} hx hy h1 => ?_) hp
  have a1 := okI_iff.1 (List.all_eq_true.1 hab.1 x hx)
  have a2 := okI_iff.1 (List.all_eq_true.1 hab.1 y hy)
  have h2 : x.2.toNat + 1 < y.1.toNat := h1
  omega
theorem up2_row {l : List Iv} (h : Up2 l) : Row true (l.map toS) := by
  refine ⟨fun s hs => ?_, ?_⟩
  · obtain ⟨x, hx, rfl⟩ := List.mem_map.1 hs
    exact okS_to (List.all_eq_true.1 h.1 x hx)
  · rw [List.pairwise_map]
    refine List.Pairwise.imp_of_mem (fun {x y} hx hy h1 => ?_) h.2
    have a1 := okI_iff.1 (List.all_eq_true.1 h.1 x hx)
    have a2 := okI_iff.1 (List.all_eq_true.1 h.1 y hy)
    show x.2.toNat + 1 < y.1.toNat
    omega
theorem inI_cons (x : Iv) (l : List Iv) (t : Int) : inI (x :: l) t = ((decide (x.1 ≤ t) && decide (t ≤ x.2)) || inI l t) := rfl
theorem inI_app (a b : List Iv) (t : Int) : inI (a ++ b) t = (inI a t || inI b t) := by unfold inI; rw [List.any_append]
theorem gaps_props (l : List Iv) (hu : Up2 l) (e : Int) (he : e ≤ 1099511627776) : ∀ fr : Int, 0 ≤ fr → (∀ g ∈ gapsL fr l e, fr ≤ g.1 ∧ g.1 ≤ g.2 ∧ g.2 ≤ e) ∧ (∀ t, inI (gapsL fr l e) t = true ↔ (fr ≤ t ∧ t ≤ e ∧ inI l t = false)) ∧ (gapsL fr l e).Pairwise (fun x y => x.2 + 1 < y.1) := by
  induction l with
  | nil =>
    intro fr hfr
    unfold gapsL
    by_cases h : fr ≤ e
    · rw [if_pos h]
      refine ⟨fun g hg => ?_, fun t => ?_, by simp⟩
      · rw [List.mem_singleton.1 hg]; exact ⟨Int.le_refl _, h, Int.le_refl _⟩
      · rw [inI_cons]
        show (decide (fr ≤ t) && decide (t ≤ e) || false) = true ↔ (fr ≤ t ∧ t ≤ e ∧ false = false)
        simp
    · rw [if_neg h]
      refine ⟨(fun g hg => by cases hg), (fun t => ⟨(fun h2 => by cases h2), (fun h2 => by omega)⟩), List.Pairwise.nil⟩
  | cons x xs ih =>
    intro fr hfr
    have hx := okI_iff.1 (List.all_eq_true.1 hu.1 x List.mem_cons_self)
    have hp := List.pairwise_cons.1 hu.2
    have hux : Up2 xs := ⟨List.all_eq_true.2 fun y hy => List.all_eq_true.1 hu.1 y (List.mem_cons_of_mem _ hy), hp.2⟩
    obtain ⟨i1, i2, i3⟩ := ih hux (max fr (x.2 + 1)) (by omega)
    unfold gapsL
    obtain ⟨mn, hmn⟩ : ∃ mn, mn = min (x.1 - 1) e := ⟨_, rfl⟩
    obtain ⟨mx, hmx⟩ : ∃ mx, mx = max fr (x.2 + 1) := ⟨_, rfl⟩
    rw [← hmn, ← hmx]
    rw [← hmx] at i1 i2 i3
    have hlow : ∀ t, t ≤ x.2 → inI xs t = false := fun t ht => by
      unfold inI
      rw [List.any_eq_false]
      intro y hy h2
      have := hp.1 y hy
      simp only [Bool.and_eq_true, decide_eq_true_eq] at h2
      omega
    have hpre : ∀ t, inI (if fr ≤ mn then [(fr, mn)] else []) t = true ↔ (fr ≤ t ∧ t ≤ mn) := fun t => by
      by_cases h : fr ≤ mn
      · rw [if_pos h, inI_cons]
        show (decide (fr ≤ t) && decide (t ≤ mn) || false) = true ↔ _
        simp
      · rw [if_neg h]
        exact ⟨(fun h2 => by cases h2), (fun h2 => by omega)⟩
    refine ⟨fun g hg => ?_, fun t => ?_, List.pairwise_append.2 ⟨?_, i3, fun g hg g2 hg2 => ?_⟩⟩
    · rcases List.mem_append.1 hg with hg | hg
      · split at hg
        · rw [List.mem_singleton.1 hg]; exact ⟨Int.le_refl _, by assumption, by show mn ≤ e; omega⟩
        · cases hg
      · have := i1 g hg
        omega
    · rw [inI_app, Bool.or_eq_true, hpre, i2, inI_cons, Bool.or_eq_false_iff, Bool.and_eq_false_iff, decide_eq_false_iff_not, decide_eq_false_iff_not]
      constructor
      · rintro (⟨h1, h2⟩ | ⟨h1, h2, h3⟩)
        · exact ⟨h1, by omega, .inl (by omega), hlow t (by omega)⟩
        · exact ⟨by omega, h2, .inr (by omega), h3⟩
      · rintro ⟨h1, h2, h3, h4⟩
        by_cases h5 : x.1 ≤ t
        · exact .inr ⟨by omega, h2, h4⟩
        · exact .inl ⟨h1, by omega⟩
    · split <;> simp
    · split at hg
      · rw [List.mem_singleton.1 hg]
        have := i1 g2 hg2
        show mn + 1 < g2.1
        omega
      · cases hg
/-- what is within an interval and not in a row -/
def notM (l : List Iv) (wi : Iv) (x : Nat) : Bool := (decide (wi.1.toNat ≤ x) && decide (x ≤ wi.2.toNat)) && !inB (l.map toS) x
theorem gaps_row {l : List Iv} {wi : Iv} (h : okJ l = true) (hw : okI wi = true) : Up2 (gapsL wi.1 l wi.2) ∧ ∀ x, inB ((gapsL wi.1 l wi.2).map toS) x = notM l wi x := by
  have hu := up2_of h
  have hw3 := okI_iff.1 hw
  obtain ⟨i1, i2, i3⟩ := gaps_props l hu wi.2 hw3.2.2 wi.1 hw3.1
  have hall : (gapsL wi.1 l wi.2).all okI = true := List.all_eq_true.2 fun g hg => okI_iff.2 (by have := i1 g hg; omega)
  refine ⟨⟨hall, i3⟩, fun x => ?_⟩
  have e1 := inI_to hall (t := (x : Int)) (by omega)
  have e2 := inI_to hu.1 (t := (x : Int)) (by omega)
  rw [Int.toNat_natCast] at e1 e2
  unfold notM
  rw [← e1, ← e2, Bool.eq_iff_iff, i2]
  simp only [Bool.and_eq_true, decide_eq_true_eq, Bool.not_eq_true']
  constructor
  · rintro ⟨a, b, c⟩; exact ⟨⟨by omega, by omega⟩, c⟩
  · rintro ⟨⟨a, b⟩, c⟩; exact ⟨by omega, by omega, c⟩
end Go.Proofs.Ytmkbijnndbgjgaa.Iv
namespace Go.Proofs.Ytmkbijnndbgjgaa.Iv
open Go.RowKit Go.Shelf
open Go.Proofs.Ytmkbijnndbgjgaa.Lk (HasRow hasRow_own addr_add)
open Go.Proofs.Ytmkbijnndbgjgaa.Sp (Sp inB inB_iff Row rowB row_ext okS okS_iff okB okB_iff topN chk grown_of own_below row_ne own_down ko_row own_set below_row info_parts)
open Go.Proofs.Ytmkbijnndbgjgaa.Addr (hiN loN adV rightB wideN RowAt below2 below_drew below_new bset RowAt.lt RowAt.cell RowAt.frozen RowAt.below RowAt.drew RowAt.new RowAt.alloc cells2 cells4)
attribute [local go_sem] Oper.semAt_some
attribute [-go_sem] Builtin.append_
theorem results_cc {fn : Func} {p q : Tmp} {ty ty2 : TypeId} (h : fn.results = #[.cell p ty, .cell q ty2]) (tmps : Array Value) (P : Program) (w : World) :
    (results fn tmps).run P w =
      ((asAddr (tmps.getD p undef)).run P w).andThen fun a w₁ => ((loadVar ty a).run P w₁).andThen fun v w₂ => ((asAddr (tmps.getD q undef)).run P w₂).andThen fun b w₃ => ((loadVar ty2 b).run P w₃).andThen fun v2 w₄ => .ok (.tuple #[v, v2]) w₄ := by
  simp only [results, h]
  simp [Sem.run_bind, Result.andThen]
theorem app_inI {W : World} {m : Nat} {u : Value} {a : List Iv} (h : W.ownsRow m 23 2 u a.length (csI a)) (x : Iv) (hb : a.length ≤ 1000000) (hm : m ≤ W.heap.size) :
    ∃ g cap w3, (∀ ty, (Builtin.append_ #[38, 38] ty #[u, .slice (some ⟨W.heap.size, 0, none⟩) 1 1]).run Try.prog (W.alloc (.cells #[.int .i64 x.1, .int .i64 x.2] 23)) = .ok (.slice (some ⟨g, 0, none⟩) (a.length + 1) cap) w3) ∧ w3.ownsRow m 23 2 (.slice (some ⟨g, 0, none⟩) (a.length + 1) cap) (a ++ [x]).length (csI (a ++ [x])) ∧ (W.alloc (.cells #[.int .i64 x.1, .int .i64 x.2] 23)).grownBy w3 u.ownBlock ∧ (u.ownBlock = some g ∨ W.heap.size ≤ g) ∧ g < w3.heap.size := by
  obtain ⟨i0, hi0, hz0, hz1, hz2⟩ := info_parts infoI
  have hx := litI W x 23
  have hk := own_below h (below_new (Below.refl _ W) (.cells #[.int .i64 x.1, .int .i64 x.2] 23))
  have hsz : m ≤ (W.alloc (.cells #[.int .i64 x.1, .int .i64 x.2] 23)).heap.size := by simp; omega
  have hsz2 : W.heap.size ≤ (W.alloc (.cells #[.int .i64 x.1, .int .i64 x.2] 23)).heap.size := by simp
  obtain ⟨V, hV⟩ : ∃ V, V = W.alloc (.cells #[.int .i64 x.1, .int .i64 x.2] 23) := ⟨_, rfl⟩
  rw [← hV] at hx hk hsz hsz2 ⊢
  generalize W.heap.size = b at *
  rcases hx.2 with ⟨h0, _⟩ | ⟨a0, cap, e0, g1, g2, g3, g4⟩
  · cases h0
  · injection e0 with e1 e2 e3
    injection e1 with e1
    subst e1 e3
    have hh := fun ty => run_append_lies (P := Try.prog) (w := V) 38 ty m 23 i0 (.agg #[.int .i64 0, .int .i64 0]) 2 16 Try.underlying38 hi0 hz0 hz1 hz2 rfl (by decide) u a.length (csI a) hk ⟨b, 0, none⟩ 1 1 (csI [x]) hx.1
      (fun j y hj => by rw [g4 j (by have := hx.1; rw [← this]; exact (List.getElem?_eq_some_iff.1 hj).1)]; exact hj) (one_csI [x]) (by decide) (by unfold maxLen; omega) (by omega) hsz V.heap.size rfl
    obtain ⟨g, c2, w3, hrun, k1, k2, k3, k4⟩ := hh 0
    rw [← csI_app] at k1
    refine ⟨g, c2, w3, fun ty => hrun, by rw [List.length_append]; exact k1, k2, ?_, k4⟩
    rcases k3 with k3 | k3
    · exact .inl k3
    · exact .inr (by omega)
theorem rowAt_own {β : Type} (b : Nat) (cs : List Value) (t : Nat) (B : Nat) : OwnFrom B (fun (_ : β) W => RowAt W b cs t) := by
  rintro s X Y row h hg hrow
  refine (hg.block b (RowAt.lt h) (fun e => ?_)).trans h
  obtain ⟨_, o, ho, hc⟩ := hrow b e.symm
  rw [show X.heap[b]? = _ from h] at ho; cases ho; cases hc
/-- between two rounds of the loop that gathers gaps -/
def NI (n₀ rb zs : Nat) (w : World) (pre : List Iv) (W : World) : Prop :=
  (∃ v, Boxed W rb 38 v ∧ W.ownsRow (rb + 1) 23 2 v pre.length (csI pre) ∧ True) ∧ RowAt W (n₀ + 1) [.slice none 0 0] 38 ∧ RowAt W (n₀ + 1 + 1) [.int .i64 0] 26 ∧ Below n₀ w W ∧ zs ≤ W.heap.size ∧ pre.length ≤ 1024
def NX (n₀ : Nat) (w : World) (cd : Code) (pre : List Iv) (W : World) : Prop :=
  cd = .ret ∧ 1024 < pre.length ∧ RowAt W (n₀ + 1) [.slice none 0 0] 38 ∧ RowAt W (n₀ + 1 + 1) [.int .i64 11] 26 ∧ Below n₀ w W
theorem ni_own (n₀ rb zs B : Nat) (w : World) (hn : n₀ ≤ w.heap.size) (hB : n₀ ≤ B) : OwnFrom B (NI n₀ rb zs w) :=
  OwnFrom.and (Own.from (holdsRow_own (rb + 1) rb 38 23 2 (fun pre : List Iv => pre.length) (fun pre => csI pre) (fun _ _ => True)) B)
    (OwnFrom.and (rowAt_own _ _ _ B) (OwnFrom.and (rowAt_own _ _ _ B) (OwnFrom.and (ownFrom_below hn hB) (OwnFrom.and (fun _ _ _ _ hs hg _ => Nat.le_trans hs hg.size) (fun _ _ _ _ hs _ _ => hs)))))
theorem nx_own (n₀ B : Nat) (w : World) (hn : n₀ ≤ w.heap.size) (hB : n₀ ≤ B) (cd : Code) : OwnFrom B (NX n₀ w cd) :=
  OwnFrom.and (fun _ _ _ _ hs _ _ => hs) (OwnFrom.and (fun _ _ _ _ hs _ _ => hs) (OwnFrom.and (rowAt_own _ _ _ B) (OwnFrom.and (rowAt_own _ _ _ B) (ownFrom_below hn hB))))
theorem kr_app {rb g cap k : Nat} {W w3 : World} {v : Value} (o : Obj) (hv : Boxed W rb 38 v) (hb3 : Boxed w3 rb 38 v) (hg : (W.alloc o).grownBy w3 v.ownBlock) (h1 : v.ownBlock = some g ∨ W.heap.size ≤ g) (h2 : g < w3.heap.size) (hrb : rb < W.heap.size) :
    Kr rb W (w3.setCell ⟨rb, 0, none⟩ (.slice (some ⟨g, 0, none⟩) k cap)) := by
  have hs := hg.size
  rw [World.size_alloc] at hs
  have hr : rowK W rb = v.ownBlock := by unfold rowK; rw [hv.cell]; rfl
  refine ⟨by simp; omega, fun j p hp _ hj hne => ?_, fun g2 hg2 => ?_⟩
  · have hl := (Array.getElem?_eq_some_iff.1 hp).1
    rw [hr] at hne
    have e1 : (w3.setCell ⟨rb, 0, none⟩ (.slice (some ⟨g, 0, none⟩) k cap)).heap[j]? = w3.heap[j]? := (grownBy_setCell' w3 rb _).block j (by omega) (fun e => hj (by injection e))
    rw [e1, hg.block j (by rw [World.size_alloc]; omega) (fun e => hne e.symm)]
    exact (Below.heap_alloc W o j hl).trans hp
  · unfold rowK at hg2
    have hb := (hb3.set (.slice (some ⟨g, 0, none⟩) k cap)).cell
    rw [hb] at hg2
    have e : g = g2 := by simpa [Value.ownBlock] using hg2
    subst e
    rw [hr]
    rcases h1 with h1 | h1
    · exact .inl h1
    · exact .inr ⟨h1, by simpa using h2⟩
theorem setI_gap {l : List Iv} {wi : Iv} (h : okJ l = true) (hw : okI wi = true) (hl : (gapsL wi.1 l wi.2).length ≤ 1024) : SetI true (notM l wi) (l.length + 1) ((gapsL wi.1 l wi.2).map toS) 0 := by
  obtain ⟨h1, h2⟩ := gaps_row h hw
  have h3 := gaps_len wi.1 l wi.2
  exact ⟨(fun h => by cases h), fun _ => .inl ⟨rfl, up2_row h1, tms_to h1.1, h2, by rw [List.length_map]; exact hl, by rw [List.length_map]; exact h3⟩⟩
theorem setI_gapL {l : List Iv} {wi : Iv} (h : okJ l = true) (hw : okI wi = true) (hl : 1024 < (gapsL wi.1 l wi.2).length) : SetI true (notM l wi) (l.length + 1) [] 11 := by
  obtain ⟨h1, h2⟩ := gaps_row h hw
  have h3 := gaps_len wi.1 l wi.2
  exact ⟨(fun h => by cases h), fun _ => .inr ⟨rfl, rfl, _, up2_row h1, h2, by rw [List.length_map]; exact hl, by rw [List.length_map]; exact h3⟩⟩
set_option maxHeartbeats 8000000 in
set_option maxRecDepth 20000 in
theorem notI_any (l : List Iv) (wi : Iv) (v : Value) (w : World) (hl : HasI w v l) :
    Calls Try.prog 29 #[v, .agg #[.int .i64 wi.1, .int .i64 wi.2]] w (PostI w (SetI (okJ l && okI wi) (notM l wi) (l.length + 1))) := by
  have ck := fun (W : World) (hq : Below w.heap.size w W) => chk_any l v W (hl.keep hq)
  have cwr := fun (W : World) => wrong_any wi W
  obtain ⟨o, c, rfl, hc1, hc2⟩ := HasRow.slice hl
  have HSET : Hid (okJ l = true → okI wi = true → ((gapsL wi.1 l wi.2).length ≤ 1024 → SetI true (notM l wi) (l.length + 1) ((gapsL wi.1 l wi.2).map toS) 0) ∧ (1024 < (gapsL wi.1 l wi.2).length → SetI true (notM l wi) (l.length + 1) [] 11) ∧ ((gapsL wi.1 l wi.2).map toS).map ofS = gapsL wi.1 l wi.2) := fun h1 h2 => ⟨setI_gap h1 h2, setI_gapL h1 h2, map_of_to (gaps_row h1 h2).1.1⟩
  generalize notM l wi = M at *
  have hwv : wi = (wi.1, wi.2) := rfl
  obtain ⟨a0, hA0⟩ : ∃ a, a = wi.1 := ⟨_, rfl⟩
  obtain ⟨e0, hE0⟩ : ∃ a, a = wi.2 := ⟨_, rfl⟩
  rw [← hA0, ← hE0] at cwr hwv ⊢
  obtain ⟨g0, hg0⟩ : ∃ g, g = w.heap.size := ⟨_, rfl⟩
  have HG0 : Hid (g0 = w.heap.size) := hg0
  obtain ⟨X, hX⟩ : ∃ X, X = ((w.alloc (.cells #[.int .i64 a0, .int .i64 e0] 23)).alloc (.cells #[.slice none 0 0] 38)).alloc (.cells #[.int .i64 0] 26) := ⟨_, rfl⟩
  have hB : Below w.heap.size w X := by rw [hX]; exact below_new (below_new (below_new (Below.refl _ _) _) _) _
  have r3 : RowAt X g0 [.int .i64 a0, .int .i64 e0] 23 := by rw [hX, hg0]; exact ((RowAt.new _ _ _).alloc _).alloc _
  have r4 : RowAt X (g0 + 1) [.slice none 0 0] 38 := by rw [hX, hg0, ← World.size_alloc w (.cells #[.int .i64 a0, .int .i64 e0] 23)]; exact (RowAt.new _ _ _).alloc _
  have r5 : RowAt X (g0 + 1 + 1) [.int .i64 0] 26 := by rw [hX, hg0, ← World.size_alloc w (.cells #[.int .i64 a0, .int .i64 e0] 23), ← World.size_alloc _ (.cells #[.slice none 0 0] 38)]; exact RowAt.new _ _ _
  cases hok : okJ l
  · rw [hok] at ck
    generalize l.length = n at *
    unfold chk at ck
    simp only [Bool.false_eq_true, if_false] at ck
    clear hl hok HSET cwr hA0 hE0 hwv
    go_enter Try.func29, Try.ntmps29
    go_upto_region 1 with fail
    rw [← hX, ← hg0]
    clear hX hg0
    go_wp2_with fail
    go_at_call 51; refine (ck _ hB).mono ?_; rintro e w2 ⟨rfl, hb⟩
    have hW := below2 hB hb
    have q4 := r4.below hb
    have q5 := r5.below hb
    have y4 := q4.cell 0
    have y5 := q5.cell 0
    simp only [List.getElem?_cons_zero] at y4 y5
    have f4 := q4.frozen
    have f5 := q5.frozen
    have l4 := q4.lt
    have l5 := q5.lt
    clear ck
    go_wp2_with fail
    (try simp only [Exit.inBlock, Exit.then])
    refine bodyPost_ret (v := .tuple #[.slice none 0 0, .int .i64 2]) ?_ rfl ⟨_, [], 2, rfl, hasI_nil _, bset (bset hW (by have := HG0.out; omega)) (by have := HG0.out; omega), setI_bad⟩
    rw [results_cc rfl]
    go_simp
  have hlok := hok
  rw [hok] at ck
  unfold chk at ck
  simp only [if_true] at ck
  cases hwo : okI wi
  · rw [hwo] at cwr
    simp only [Bool.not_false] at cwr
    generalize l.length = n at *
    clear hl hok HSET hlok hwo hA0 hE0 hwv
    go_enter Try.func29, Try.ntmps29
    go_upto_region 1 with fail
    rw [← hX, ← hg0]
    clear hX hg0
    go_wp2_with fail
    go_at_call 51; refine (ck _ hB).mono ?_; rintro e w2 ⟨rfl, hb⟩
    obtain ⟨z0, z1, zf⟩ := cells2 (r3.below hb)
    clear ck
    go_wp2_with fail
    go_at_call 62; refine (cwr _).mono ?_; rintro e w3 ⟨rfl, hb3⟩
    clear z0 z1 zf cwr
    have hW := below2 (below2 hB hb) hb3
    have q4 := r4.below (below2 hb hb3)
    have q5 := r5.below (below2 hb hb3)
    have y4 := q4.cell 0
    have y5 := q5.cell 0
    simp only [List.getElem?_cons_zero] at y4 y5
    have f4 := q4.frozen
    have f5 := q5.frozen
    have l4 := q4.lt
    have l5 := q5.lt
    go_wp2_with fail
    (try simp only [Exit.inBlock, Exit.then])
    refine bodyPost_ret (v := .tuple #[.slice none 0 0, .int .i64 2]) ?_ rfl ⟨_, [], 2, rfl, hasI_nil _, bset (bset hW (by have := HG0.out; omega)) (by have := HG0.out; omega), setI_bad⟩
    rw [results_cc rfl]
    go_simp
  have hset := HSET.out hok hwo
  rw [hwo] at cwr
  simp only [Bool.not_true] at cwr
  have hlen : l.length ≤ 1024 := by
    have hab := (Bool.and_eq_true _ _).mp (show (l.all okI && okB true (l.map toS)) = true from hok)
    have := (okB_iff.1 hab.2).1
    rwa [List.length_map] at this
  have hall : l.all okI = true := ((Bool.and_eq_true _ _).mp (show (l.all okI && okB true (l.map toS)) = true from hok)).1
  have cga := fun (W : World) => gaps_any (.slice o l.length c) (a0, e0) W ⟨_, _, _, rfl⟩
  have hwi2 : okI (a0, e0) = true := by rw [← hwv]; exact hwo
  have HGS : Hid (∀ (Z : World) (Bw Bl rb : Nat), HasI Z (.slice o l.length c) l → RowAt Z Bw [.int .i64 a0, .int .i64 e0] 23 → RowAt Z Bl [.slice o l.length c] 38 → rb < Z.heap.size → Bw ≠ rb → Bl ≠ rb → (∀ a, o = some a → 0 < l.length → a.block ≠ rb) → rowK Z rb = none → SeqStopsK Fence.wide (5 - 1) Try.prog 83 #[.pointer (some ⟨Bw, 0, none⟩), .pointer (some ⟨Bl, 0, none⟩)] encI (Kr rb) (fun xs => xs = gapsL a0 l e0) (fun pre => pre.length ≤ (gapsL a0 l e0).length) (gapsL a0 l e0).length Z) := fun Z Bw Bl rb h1 h2 h3 h4 h5 h6 h7 h8 => gaps1_stops l (a0, e0) o c (5 - 1) Bw Bl rb Z h1 h2 h3 h4 h5 h6 h7 h8 hall hwi2 hlen
  rw [← hA0, ← hE0] at hset
  generalize gapsL a0 l e0 = G at HGS hset
  have HSET2 : Hid _ := hset
  have HLK : Hid (∀ W, Below w.heap.size w W → HasI W (.slice o l.length c) l) := fun W hq => hl.keep hq
  have HOB : Hid (∀ a, o = some a → l.length = 0 ∨ a.block < w.heap.size) := fun a ha => by
    subst ha
    by_cases h0 : l.length = 0
    · exact .inl h0
    · obtain ⟨b, i, e, hb, _⟩ := HasI.cell hl 0 (by omega)
      injection e with e
      subst e
      exact .inr hb
  clear hl hset HSET hwi2 hwv hA0 hE0 hall hok hlok hwo
  refine (callsIn_wide (n := 5)).1 ?_
  refine callsIn_of_wp_marks Try.func29 rfl trivial ?_ rfl
  simp only [Try.ntmps29, List.size_toArray, List.length_cons, List.length_nil, Nat.reduceAdd, Nat.reduceSub, Array.replicate_succ, Array.replicate_zero, List.push_toArray, List.append_toArray, List.nil_append, List.cons_append]
  gi_upto_region 1 with fail
  rw [← hX, ← hg0]
  clear hX hg0
  gi_wp2_with fail
  refine ⟨trivial, ?_⟩
  gi_at_call 51; refine (callsIn_wide.2 (ck _ hB)).mono ?_; rintro e w1 ⟨rfl, hb1⟩
  obtain ⟨z0, z1, zf⟩ := cells2 (r3.below hb1)
  gi_wp2_with fail
  refine ⟨trivial, ?_⟩
  gi_at_call 62; refine (callsIn_wide.2 (cwr _)).mono ?_; rintro e w2 ⟨rfl, hb2⟩
  clear z0 z1 zf ck cwr
  have hb02 := below2 hb1 hb2
  gi_upto_region 4 with fail
  obtain ⟨V, hV⟩ : ∃ V, V = w2.alloc (.cells #[.slice none 0 0] 38) := ⟨_, rfl⟩
  have hbV : Below w2.heap.size w2 V := by rw [hV]; exact below_new (Below.refl _ _) _
  have r6 : RowAt V w2.heap.size [.slice none 0 0] 38 := by rw [hV]; exact RowAt.new _ _ _
  have hVs : V.heap.size = w2.heap.size + 1 := by rw [hV]; simp
  rw [← hV]
  clear hV
  have hXV := below2 hb02 hbV
  have q5 := (r5.below hb02).lt
  obtain ⟨rb, hrb⟩ : ∃ g, g = w2.heap.size := ⟨_, rfl⟩
  rw [← hrb] at r6 hVs ⊢
  have hrg : g0 + 1 + 1 < rb := by rw [hrb]; exact q5
  clear q5 hrb hb1 hb2 hb02 hbV
  obtain ⟨z0, z1, zf⟩ := cells2 (r3.below hXV)
  gi_wp2_with fail
  refine ⟨trivial, ?_⟩
  gi_at_call 63; refine (callsIn_wide.2 (cga _)).mono ?_; rintro e Z ⟨rfl, hZ⟩
  clear z0 z1 zf cga
  have hbZ : Below V.heap.size V Z := by rw [hZ]; exact below_new (below_new (Below.refl _ _) _) _
  have sl : RowAt Z V.heap.size [.slice o l.length c] 38 := by rw [hZ]; exact (RowAt.new _ _ _).alloc _
  have sw : RowAt Z (V.heap.size + 1) [.int .i64 a0, .int .i64 e0] 23 := by
    have h := RowAt.new (V.alloc (.cells #[.slice o l.length c] 38)) [.int .i64 a0, .int .i64 e0] 23
    simp only [World.size_alloc] at h
    rw [hZ]; exact h
  clear hZ
  have hXZ := below2 hXV hbZ
  have hwZ := below2 hB hXZ
  obtain ⟨gV, hgV⟩ : ∃ g, g = V.heap.size := ⟨_, rfl⟩
  rw [← hgV] at sl sw ⊢
  have hgr : rb < gV := by omega
  have hZs : gV + 1 < Z.heap.size := sw.lt
  have t6 : RowAt Z rb [.slice none 0 0] 38 := r6.below hbZ
  have hrk : rowK Z rb = none := by unfold rowK; rw [t6.cell 0]; rfl
  have hst := HGS.out Z (gV + 1) gV rb (HLK.out _ hwZ) sw sl (by omega) (by omega) (by omega) (fun a ha h0 => by
      rcases HOB.out a ha with h | h
      · omega
      · have := hB.size; have := hXZ.size; have := HG0.out; omega) hrk
  have hg0w : g0 ≤ w.heap.size := by have := HG0.out; omega
  have I0 : NI g0 rb Z.heap.size w [] Z := ⟨⟨_, (show Boxed Z rb 38 (.slice none 0 0) from t6), World.ownsRow_nil _ _ _ _, trivial⟩, r4.below hXZ, r5.below hXZ, by rw [HG0.out]; exact hwZ, by omega, by simp⟩
  clear hXV hbZ hgV r6 HGS HLK HOB
  gi_wp2_with fail
  refine wpIn_rangeFunc_ownH (α := Iv) rfl (by omega) (gf := 83) (lb := #[.pointer (some ⟨gV + 1, 0, none⟩), .pointer (some ⟨gV, 0, none⟩)]) rfl trivial (enters_of Try.func83 (by kernel_rfl) rfl)
    hst kr_t (kr_b (by omega)) (Below.refl _ _) (fun _ => rfl)
    (NI g0 rb Z.heap.size w) (NX g0 w) (ni_own _ _ _ _ w hg0w (by omega)) (fun cd => nx_own _ _ w hg0w (by omega) cd) I0
    (fun x a' W => ∃ Bx, (Z.heap.size ≤ Bx ∧ RowAt W Bx [.int .i64 x.1, .int .i64 x.2] 23) ∧ a' = { tmps := #[.slice o l.length c, .agg #[.int .i64 a0, .int .i64 e0], undef, .pointer (some ⟨g0, 0, none⟩), .pointer (some ⟨g0 + 1, 0, none⟩), .pointer (some ⟨g0 + 1 + 1, 0, none⟩), .pointer (some ⟨rb, 0, none⟩), .pointer (some ⟨Bx, 0, none⟩), .slice o l.length c, .int .i64 0, .bool false, .bool false, .agg #[.int .i64 a0, .int .i64 e0], .bool false, .bool false, .slice o l.length c, .agg #[.int .i64 a0, .int .i64 e0], .func (.func 83) #[] #[.pointer (some ⟨gV + 1, 0, none⟩), .pointer (some ⟨gV, 0, none⟩)], .agg #[.int .i64 x.1, .int .i64 x.2], undef, undef, undef, undef, undef, undef, undef, undef], defers := [] })
    (fun x a' s A B row hs hg hr => by
      obtain ⟨Bx, ⟨h1, h2⟩, e⟩ := hs
      exact ⟨Bx, ⟨h1, rowAt_own (β := Unit) Bx _ _ _ () A B row h2 hg hr⟩, e⟩)
    ?assign ?body ?done ?stop
  case assign =>
    rintro lp pre x W K hG hK
    have hsW : Z.heap.size ≤ W.heap.size := hG.2.2.2.2.1
    have hA := hK _ (W.alloc (.cells #[.int .i64 x.1, .int .i64 x.2] 23)) ((KeepsOthers.alloc W _).from _) (kr_below (below_new (Below.refl _ _) _) (by omega)) (ni_own _ _ _ Z.heap.size w hg0w (by omega) pre W _ none hG (World.grownBy_alloc W _ none) (fun r e => by cases e)) ⟨W.heap.size, ⟨hsW, RowAt.new W [.int .i64 x.1, .int .i64 x.2] _⟩, rfl⟩
    unfold encI
    gi_wp2
    exact hA
  case body =>
    rintro lp pre x a' W hlp ⟨rr, hrr⟩ hG ⟨Bx, ⟨hge, hF⟩, rfl⟩ hlt
    obtain ⟨⟨v, hv, hown, -⟩, hq4, hq5, hBw, hsz, hpl⟩ := hG
    obtain ⟨q0, q1, qf⟩ := cells2 hF
    obtain ⟨ov, cv, rfl, _, _⟩ := HasRow.slice (hasRow_own hown)
    have hb4 : Boxed W (g0 + 1) 38 (.slice none 0 0) := hq4
    have hb5 : Boxed W (g0 + 1 + 1) 26 (.int .i64 0) := hq5
    have c6 := hv.cell
    have f6 := hv.frozen
    by_cases hfull : pre.length = 1024
    · have hn1 : (pre.length : Int) = 1024 := by omega
      have c4 := hb4.cell
      have f4 := hb4.frozen
      have c5 := hb5.cell
      have f5 := hb5.frozen
      have l4 := RowAt.lt hq4
      have l5 := RowAt.lt hq5
      gi_wp2
      refine ⟨((KeepsOthers.setCell _ _ _).trans (KeepsOthers.setCell _ _ _)).from _, rfl, ?_, ?_, ?_, ?_⟩
      · rw [List.length_append, hfull]; simp
      · exact (hb4.set _).other (by omega) _
      · exact (hb5.other (by omega) _).set _
      · exact (hBw.setCell (p := ⟨g0 + 1, 0, none⟩) (show g0 ≤ g0 + 1 by omega) _).setCell (p := ⟨g0 + 1 + 1, 0, none⟩) (show g0 ≤ g0 + 1 + 1 by omega) _
    · have hn1 : ((pre.length : Int) == 1024) = false := beq_eq_false_iff_ne.2 (by omega)
      have hn2 : decide ((pre.length : Int) = 1024) = false := decide_eq_false (by omega)
      obtain ⟨g, cap, w3, hrun, hown3, hgrow, hg1, hg2⟩ := app_inI hown x (by omega) (by omega)
      have hv4 : Boxed w3 rb 38 (.slice ov pre.length cv) := (hv.alloc _).kept hgrow (row_ne hown (by omega))
      have hv5 := hv4.cell
      have hf5 := hv4.frozen
      have mixed : Try.prog.follows .mixedOrders = true := by kernel_rfl
      gi_wp2
      have hgs := hgrow.size
      rw [World.size_alloc] at hgs
      refine ⟨?_, ?_, ⟨⟨_, hv4.set _, ?_, trivial⟩, ?_, ?_, ?_, ?_, ?_⟩⟩
      · exact (((KeepsOthers.alloc _ _).trans (ko_row (hown.alloc _) hgrow)).trans (KeepsOthers.setCell _ _ _)).from _
      · exact kr_app _ hv hv4 hgrow hg1 hg2 (by omega)
      · exact own_set hown3 (b := rb) (by omega) _
      · exact ((hb4.alloc _).kept hgrow (row_ne hown (by omega))).other (by omega) _
      · exact ((hb5.alloc _).kept hgrow (row_ne hown (by omega))).other (by omega) _
      · exact (below_row (hBw.alloc (by have := hBw.size; omega) _) (by have := hBw.size; simp; omega) (by omega) (hown.alloc _) hgrow).setCell (p := ⟨rb, 0, none⟩) (show g0 ≤ rb by omega) _
      · simp; omega
      · rw [List.length_append]; simp; omega
  case done =>
    rintro D xs W hD hS ⟨⟨v, hv, hown, -⟩, hq4, hq5, hBw, hsz, hpl⟩ hK
    obtain ⟨ov, cv, rfl, _, _⟩ := HasRow.slice (hasRow_own hown)
    obtain rfl : xs = G := hS
    have hb4 : Boxed W (g0 + 1) 38 (.slice none 0 0) := hq4
    have hb5 : Boxed W (g0 + 1 + 1) 26 (.int .i64 0) := hq5
    have c6 := hv.cell
    have c4 := hb4.cell
    have f4 := hb4.frozen
    have c5 := hb5.cell
    have f5 := hb5.frozen
    have l4 := RowAt.lt hq4
    have l5 := RowAt.lt hq5
    obtain ⟨W', hW'⟩ : ∃ W', W' = (W.setCell ⟨g0 + 1, 0, none⟩ (.slice ov xs.length cv)).setCell ⟨g0 + 1 + 1, 0, none⟩ (.int .i64 0) := ⟨_, rfl⟩
    have k4 : Boxed W' (g0 + 1) 38 (.slice ov xs.length cv) := by rw [hW']; exact (hb4.set _).other (by omega) _
    have k5 : Boxed W' (g0 + 1 + 1) 26 (.int .i64 0) := by rw [hW']; exact (hb5.other (by omega) _).set _
    have kK : W'.heap[D]? = some (.deferred (some [])) := by
      have hDl := (Array.getElem?_eq_some_iff.1 hK).1
      rw [hW']
      exact ((grownBy_setCell' _ (g0 + 1 + 1) _).block D (by simpa using hDl) (fun e => by injection e with e; omega)).trans (((grownBy_setCell' W (g0 + 1) _).block D hDl (fun e => by injection e with e; omega)).trans hK)
    have kb : Below g0 w W' := by rw [hW']; exact (hBw.setCell (p := ⟨g0 + 1, 0, none⟩) (show g0 ≤ g0 + 1 by omega) _).setCell (p := ⟨g0 + 1 + 1, 0, none⟩) (show g0 ≤ g0 + 1 + 1 by omega) _
    have ko : W'.ownsRow (rb + 1) 23 2 (.slice ov xs.length cv) xs.length (csI xs) := by rw [hW']; exact own_set (own_set hown (b := g0 + 1) (by omega) _) (b := g0 + 1 + 1) (by omega) _
    have p4 : ∀ ob, (W'.putObj D ob).cell? ⟨g0 + 1, 0, none⟩ = some (.slice ov xs.length cv) := fun ob => (show Boxed (W'.putObj D ob) (g0 + 1) 38 _ from (World.putObj_heap_other (by omega)).trans k4).cell
    have p5 : ∀ ob, (W'.putObj D ob).cell? ⟨g0 + 1 + 1, 0, none⟩ = some (.int .i64 0) := fun ob => (show Boxed (W'.putObj D ob) (g0 + 1 + 1) 26 _ from (World.putObj_heap_other (by omega)).trans k5).cell
    gi_wp2
    rw [← hW']
    clear hW' c4 c5 c6 f4 f5
    refine ⟨by simp, .inl ⟨_, _, rfl, run_takeDeferred (w := W') kK, ?_⟩⟩
    refine ⟨.tuple #[.slice ov xs.length cv, .int .i64 0], ?_, ?_⟩
    · have p4' := p4 (.deferred none)
      have p5' := p5 (.deferred none)
      rw [results_cc rfl]
      go_simp
    · have hs := HSET2.out
      refine ⟨_, xs.map toS, 0, rfl, ?_, ?_, by simpa using hs.1 hpl⟩
      · rw [hs.2.2]
        exact hasRow_own (ownsRow_putObj ko _ kK rfl)
      · rw [← HG0.out]
        exact kb.trans (belowK_b (w := Z) (by omega) W' D _ _ (by omega) kK rfl rfl)
  case stop =>
    rintro D cd pre W hD hS ⟨rfl, hpl, hq4, hq5, hBw⟩ hK
    have hb4 : Boxed W (g0 + 1) 38 (.slice none 0 0) := hq4
    have hb5 : Boxed W (g0 + 1 + 1) 26 (.int .i64 11) := hq5
    have l4 := RowAt.lt hq4
    have l5 := RowAt.lt hq5
    have p4 : ∀ ob, (W.putObj D ob).cell? ⟨g0 + 1, 0, none⟩ = some (.slice none 0 0) := fun ob => (show Boxed (W.putObj D ob) (g0 + 1) 38 _ from (World.putObj_heap_other (by omega)).trans hb4).cell
    have p5 : ∀ ob, (W.putObj D ob).cell? ⟨g0 + 1 + 1, 0, none⟩ = some (.int .i64 11) := fun ob => (show Boxed (W.putObj D ob) (g0 + 1 + 1) 26 _ from (World.putObj_heap_other (by omega)).trans hb5).cell
    gi_wp2
    refine ⟨by simp, .inl ⟨_, _, rfl, run_takeDeferred (w := W) hK, ?_⟩⟩
    refine ⟨.tuple #[.slice none 0 0, .int .i64 11], ?_, ?_⟩
    · have p4' := p4 (.deferred none)
      have p5' := p5 (.deferred none)
      rw [results_cc rfl]
      go_simp
    · have hs := HSET2.out
      have hS2 : pre.length ≤ G.length := hS
      refine ⟨_, [], 11, rfl, hasI_nil _, ?_, by simpa using hs.2.1 (by omega)⟩
      rw [← HG0.out]
      exact hBw.trans (belowK_b (w := Z) (by omega) W D _ _ (by omega) hK rfl rfl)
end Go.Proofs.Ytmkbijnndbgjgaa.Iv
namespace Go.Proofs.Ytmkbijnndbgjgaa.Iv
open Go.RowKit Go.Shelf
open Go.Proofs.Ytmkbijnndbgjgaa.Lk (HasRow hasRow_own addr_add)
open Go.Proofs.Ytmkbijnndbgjgaa.Sp (Sp inB inB_iff Row rowB row_ext okS okS_iff okB okB_iff topN chk)
open Go.Proofs.Ytmkbijnndbgjgaa.Addr (RowAt below2 below_drew below_new bset RowAt.lt RowAt.cell RowAt.frozen RowAt.below RowAt.drew RowAt.new RowAt.alloc cells2 cells4)
/-- how many times there are -/
def longI (l : List Iv) : Int := l.foldl (fun s x => s + (x.2 - x.1 + 1)) 0
theorem longI_snoc (l : List Iv) (k : Nat) (h : k < l.length) : longI (l.take (k + 1)) = longI (l.take k) + (l[k].2 - l[k].1 + 1) := by
  unfold longI
  rw [List.take_succ_eq_append_getElem h, List.foldl_append]
  rfl
def longJ (l : List Iv) : Int × Int := if okJ l then (longI l, 0) else (0, 2)
set_option maxHeartbeats 4000000 in
set_option maxRecDepth 20000 in
theorem longI_any (l : List Iv) (v : Value) (w : World) (hl : HasI w v l) :
    Calls Try.prog 24 #[v] w fun e w' => e = .returned (.tuple #[.int .i64 (longJ l).1, .int .i64 (longJ l).2]) ∧ Below w.heap.size w w' := by
  have ck := chk_any l v w hl
  obtain ⟨o, c, rfl, hc1, hc2⟩ := HasRow.slice hl
  cases hok : okJ l
  · have HV : Hid (longJ l = (0, 2)) := by show _ = _; unfold longJ; rw [hok]; rfl
    rw [hok] at ck
    unfold chk at ck
    simp only [Bool.false_eq_true, if_false] at ck
    generalize longJ l = R at *
    generalize l.length = n at *
    clear hl hok
    go_enter Try.func24, Try.ntmps24
    go_wp2_with fail
    go_at_call 51; refine ck.mono ?_; rintro e w2 ⟨rfl, hb⟩
    go_wp2_with fail
    go_ret2
    exact ⟨by rw [HV.out]; rfl, hb⟩
  · have HV : Hid (longJ l = (longI l, 0)) := by show _ = _; unfold longJ; rw [hok]; rfl
    rw [hok] at ck
    unfold chk at ck
    simp only [if_true] at ck
    have hab := (Bool.and_eq_true _ _).mp (show (l.all okI && okB true (l.map toS)) = true from hok)
    have ln := (okB_iff.1 hab.2).1
    rw [List.length_map] at ln
    have HR : Hid (∀ wr : World, Below w.heap.size w wr → HasI wr (.slice o l.length c) l) := fun wr hb => hl.keep hb
    have HOK : Hid (∀ x ∈ l, okI x = true) := List.all_eq_true.1 hab.1
    obtain ⟨n, hn⟩ : ∃ n, n = l.length := ⟨_, rfl⟩
    have HN : Hid (n = l.length) := hn
    rw [← hn] at HR hc1 ln ck ⊢
    have hni : (n : Int) ≤ 1024 := by omega
    generalize longJ l = R at *
    clear hl hn hok hab
    go_enter Try.func24, Try.ntmps24
    go_wp2_with fail
    go_at_call 51; refine ck.mono ?_; rintro e w2 ⟨rfl, hb⟩
    clear ck
    go_wp2_with fail
    go_loopw [5, 15] (fun m q wr => ∃ (k : Nat) (s : Int), k ≤ n ∧ m = .int .i64 s ∧ q = .int .i64 k ∧ Below w.heap.size w wr ∧ (0 ≤ s ∧ s ≤ (k : Int) * 1099511627777) ∧ Hid (s = longI (l.take k))) (fun _ q _ => n - (Go.RowKit.intOf q).toNat)
    case atStart => exact ⟨0, 0, by omega, rfl, rfl, hb, by omega, rfl⟩
    case round =>
      obtain ⟨k, s, hk, rfl, rfl, hB, hs, HS⟩ := hrel
      by_cases hlt : k < n
      · have hkz : k < l.length := by rw [← HN.out]; exact hlt
        obtain ⟨g1, i1, rfl, hg1, a0, a1⟩ := HasI.cell (HR.out _ hB) k hkz
        have hxo := okI_iff.1 (HOK.out _ (List.getElem_mem hkz))
        have HA : Hid (longI (l.take (k + 1)) = longI (l.take k) + (l[k].2 - l[k].1 + 1)) := longI_snoc l k hkz
        have hki : (k : Int) < (n : Int) := by omega
        obtain ⟨x, hx⟩ : ∃ x : Iv, x = l[k] := ⟨_, rfl⟩
        rw [← hx] at HA a0 a1 hxo
        obtain ⟨x1, x2⟩ := x
        simp only at HA a0 a1 hxo
        clear hx hg1
        have hw1 : IntKind.i64.wrap (x2 - x1) = x2 - x1 := by rw [IntKind.wrap_i64]; omega
        have hw2 : IntKind.i64.wrap (x2 - x1 + 1) = x2 - x1 + 1 := by rw [IntKind.wrap_i64]; omega
        have hw3 : IntKind.i64.wrap (s + (x2 - x1 + 1)) = s + (x2 - x1 + 1) := by rw [IntKind.wrap_i64]; omega
        have HS2 : Hid (s + (x2 - x1 + 1) = longI (l.take (k + 1))) := by show _ = _; rw [HA.out, ← HS.out]
        have hs2 : 0 ≤ s + (x2 - x1 + 1) ∧ s + (x2 - x1 + 1) ≤ ((k + 1 : Nat) : Int) * 1099511627777 := by
          have : ((k + 1 : Nat) : Int) * 1099511627777 = (k : Int) * 1099511627777 + 1099511627777 := by omega
          omega
        go_upto_region 8 with fail
        obtain ⟨X, hX⟩ : ∃ X, X = wr.alloc (.cells #[.int .i64 x1, .int .i64 x2] 23) := ⟨_, rfl⟩
        have hbX : Below wr.heap.size wr X := by rw [hX]; exact below_new (Below.refl _ _) _
        have r0 : RowAt X wr.heap.size [.int .i64 x1, .int .i64 x2] 23 := by rw [hX]; exact RowAt.new _ _ _
        rw [← hX]
        have hBX := below2 hB hbX
        obtain ⟨gs, hgs⟩ : ∃ g, g = wr.heap.size := ⟨_, rfl⟩
        rw [← hgs] at r0 ⊢
        clear hX hbX a0 a1 hgs HA HS
        obtain ⟨p0, p1, pf⟩ := cells2 r0
        go_wp2_with fail
        go_roundw
        case rel => exact ⟨k + 1, _, by omega, rfl, by go_num, hBX, hs2, HS2⟩
        case measure => simp [Go.RowKit.intOf]; omega
      · have hkn : decide ((k : Int) < (n : Int)) = false := decide_eq_false (by omega)
        have hte : l.take k = l := by have := HN.out; exact List.take_of_length_le (by omega)
        have HS2 : Hid (s = longI l) := by rw [hte] at HS; exact HS.out
        clear HS hte
        go_wp2_with fail
        go_ret2
        exact ⟨by rw [HV.out, ← HS2.out]; rfl, hB⟩
end Go.Proofs.Ytmkbijnndbgjgaa.Iv
namespace Go.Proofs.Ytmkbijnndbgjgaa.Iv
open Go.RowKit
open Go.Proofs.Ytmkbijnndbgjgaa.Lk (HasRow addr_add)
open Go.Proofs.Ytmkbijnndbgjgaa.Addr (RowAt below2 below_drew below_new bset RowAt.lt RowAt.cell RowAt.frozen RowAt.below RowAt.drew RowAt.new RowAt.alloc cells2 cells4 results_cell)
attribute [-go_sem] Builtin.append_
theorem below_drewN {B : Nat} {w0 w : World} (h : Below B w0 w) (n : Nat) : Below B w0 (w.drewN n) := h.trans ⟨rfl, rfl, rfl, Nat.le_refl _, fun _ _ => rfl⟩
theorem iv_guard : Try.prog.eqGuardType Try.prog.depth 23 = false := by kernel_rfl
theorem iv_inT (x : Iv) (w : World) : (Op.equalIn 10000 23 (.agg #[.int .i64 x.1, .int .i64 x.2]) (.agg #[.int .i64 x.1, .int .i64 x.2])).run Try.prog w = .ok true w := by
  have u9 := Try.underlying2
  have a9 := Try.isAgg2
  have z9 := Try.sizeOf2
  have hS : Try.prog.underlying 23 = some (.struct (Try.prog.fieldsOf 23)) := by kernel_rfl
  have hp : Try.prog.stoodInHeld 23 = false := by kernel_rfl
  rw [show (10000 : Nat) = 9999 + 1 from rfl, run_equalIn_agg w 9999 23 _ _ hS hp]
  simp only [Program.fieldsOf, Try.underlying23]
  go_simp
theorem iv_neqT (x : Iv) (w : World) : (binOp .neq 23 (.agg #[.int .i64 x.1, .int .i64 x.2]) (.agg #[.int .i64 x.1, .int .i64 x.2])).run Try.prog w = .ok (.bool false) w := by
  rw [run_neq_struct, iv_inT]
  rfl
set_option maxHeartbeats 2000000 in
set_option maxRecDepth 20000 in
theorem same_any (l : List Iv) (v u : Value) (w : World) (h1 : HasI w v l) (h2 : HasI w u l) :
    Calls Try.prog 23 #[v, u] w fun e w' => e = .returned (.bool true) ∧ Below w.heap.size w w' := by
  obtain ⟨o1, c1, rfl, hq1, hq2⟩ := HasRow.slice h1
  obtain ⟨o2, c2, rfl, _, _⟩ := HasRow.slice h2
  have HR : Hid (∀ wr : World, Below w.heap.size w wr → HasI wr (.slice o1 l.length c1) l ∧ HasI wr (.slice o2 l.length c2) l) := fun wr hb => ⟨h1.keep hb, h2.keep hb⟩
  obtain ⟨n, hn⟩ : ∃ n, n = l.length := ⟨_, rfl⟩
  have HN : Hid (n = l.length) := hn
  rw [← hn] at HR hq1 ⊢
  have hni : (n : Int) ≤ 9223372036854775807 := by omega
  have hneq0 := iv_neqT
  have hgd := iv_guard
  have hnn : ((n : Int) != (n : Int)) = false := by simp
  clear h1 h2 hn hq1 hq2
  go_enter Try.func23, Try.ntmps23
  go_wp2_with fail
  go_loopw [13] (fun i wr => ∃ k : Nat, k ≤ n ∧ i = .int .i64 k ∧ Below w.heap.size w wr) (fun i _ => n - (Go.RowKit.intOf i).toNat)
  case atStart => exact ⟨0, by omega, rfl, Below.refl _ _⟩
  case round =>
    obtain ⟨k, hk, rfl, hB⟩ := hrel
    obtain ⟨ha, hb⟩ := HR.out _ hB
    by_cases hlt : k < n
    · have hkz : k < l.length := by rw [← HN.out]; exact hlt
      obtain ⟨g1, i1, rfl, _, a1, a2⟩ := HasI.cell ha k hkz
      obtain ⟨g2, i2, rfl, _, b1, b2⟩ := HasI.cell hb k hkz
      have hneq := hneq0 l[k]
      generalize l[k].1 = pa at a1 b1 hneq
      generalize l[k].2 = pb at a2 b2 hneq
      have hki : (k : Int) < (n : Int) := by omega
      clear ha hb
      go_wp2_with fail
      go_quiet (fail)
      go_wp2_with fail
      go_roundw
      case rel => exact ⟨k + 1, by omega, by go_num, by first | exact hB | exact below_drew hB | exact below_drewN hB _⟩
      case measure => simp [Go.RowKit.intOf]; omega
    · clear ha hb
      go_wp2
      go_ret
      exact ⟨rfl, hB⟩
end Go.Proofs.Ytmkbijnndbgjgaa.Iv
namespace Go.Proofs.Ytmkbijnndbgjgaa.Iv
open Go.RowKit
open Go.Proofs.Ytmkbijnndbgjgaa.Lk (HasRow addr_add)
open Go.Proofs.Ytmkbijnndbgjgaa.Sp (Sp inB inB_iff inB_nil hasS hasS_iff Row rowB rowB_iff row_ext okS okS_iff okB okB_iff topN chk)
open Go.Proofs.Ytmkbijnndbgjgaa.Addr (RowAt below2 below_drew below_new bset RowAt.lt RowAt.cell RowAt.frozen RowAt.below RowAt.drew RowAt.new RowAt.alloc cells2 cells4)
theorem lit_i (W : World) (l : List Iv) (cs : List Value) (h : csI l = cs) (hl : l.length ≤ 9223372036854775807) : HasI (W.alloc (.cells cs.toArray 23)) (.slice (some ⟨W.heap.size, 0, none⟩) l.length l.length) l := by
  subst h
  refine ⟨csI_len l, .inr ⟨⟨W.heap.size, 0, none⟩, l.length, rfl, Nat.le_refl _, hl, fun _ => ⟨rfl, by simp⟩, fun j hj => ?_⟩⟩
  rw [addr_add, Nat.zero_add]
  exact (RowAt.new W (csI l) 23).cell j
theorem set_row {w w' : World} {e : Ending} {m : Nat → Bool} {bd : Nat} (h : PostI w (SetI true m bd) e w') (hb : bd ≤ 1024) (L : List Sp) (hL : rowB true L = true) (hm : ∀ x, m x = inB L x) : ∃ u, e = .returned (.tuple #[u, .int .i64 0]) ∧ HasI w' u (L.map ofS) ∧ Below w.heap.size w w' := by
  obtain ⟨u, R, why, he, hO, hbl, _, h2⟩ := h
  rcases h2 rfl with ⟨h3, h4, _, h5, h6, h7⟩ | ⟨h3, h4, L', h5, h6, h7, h8⟩
  · have : R = L := row_ext h4 (rowB_iff.1 hL) (fun x => by rw [h5, hm])
    subst this h3
    exact ⟨u, he, hO, hbl⟩
  · omega
theorem mk_row {w w' : World} {e : Ending} {l : List Iv} (h : PostI w (MkI l) e w') (hl : l.length ≤ 1024) (hok : l.all okI = true) (L : List Sp) (hL : rowB true L = true) (hm : ∀ x, inB (l.map toS) x = inB L x) : ∃ u, e = .returned (.tuple #[u, .int .i64 0]) ∧ HasI w' u (L.map ofS) ∧ Below w.heap.size w w' := by
  obtain ⟨u, R, why, he, hO, hbl, h2⟩ := h
  rcases h2 with ⟨h3, _⟩ | ⟨_, h3, _⟩ | ⟨_, _, h3, h4, _, _, h5⟩
  · omega
  · rw [hok] at h3; cases h3
  · have : R = L := row_ext h4 (rowB_iff.1 hL) (fun x => by rw [h5, hm])
    subst this h3
    exact ⟨u, he, hO, hbl⟩
theorem mk_bad {w w' : World} {e : Ending} {l : List Iv} (h : PostI w (MkI l) e w') (hl : l.length ≤ 1024) (hok : l.all okI = false) : ∃ u, e = .returned (.tuple #[u, .int .i64 2]) ∧ HasI w' u [] ∧ Below w.heap.size w w' := by
  obtain ⟨u, R, why, he, hO, hbl, h2⟩ := h
  rcases h2 with ⟨h3, _⟩ | ⟨_, _, h3, h4⟩ | ⟨_, h3, _⟩
  · omega
  · subst h3 h4; exact ⟨u, he, hO, hbl⟩
  · rw [hok] at h3; cases h3
theorem in_cons (s : Sp) (l : List Sp) (x : Nat) : inB (s :: l) x = (hasS s x || inB l x) := rfl
theorem in_iff {a b : Bool} (h : a = true ↔ b = true) : a = b := Bool.eq_iff_iff.2 h
theorem mem1 (x : Nat) : inB (([(5, 7), (0, 2), (3, 3)] : List Iv).map toS) x = inB ([(0, 3), (5, 7)] : List Sp) x := by
  show inB ([(5, 7), (0, 2), (3, 3)] : List Sp) x = _
  apply in_iff
  simp only [in_cons, inB_nil, Bool.or_eq_true, hasS_iff, Bool.false_eq_true, or_false]
  omega
theorem mem2 (x : Nat) : notM ([(0, 3), (5, 7)] : List Iv) (0, 9) x = inB ([(4, 4), (8, 9)] : List Sp) x := by
  show ((decide (0 ≤ x) && decide (x ≤ 9)) && !inB ([(0, 3), (5, 7)] : List Sp) x) = _
  apply in_iff
  simp only [in_cons, inB_nil, Bool.or_eq_true, Bool.and_eq_true, Bool.not_eq_true', decide_eq_true_eq, Bool.or_eq_false_iff, hasS_iff, Bool.false_eq_true, or_false]
  have hn : ∀ a b y : Nat, hasS (a, b) y = false ↔ ¬ (a ≤ y ∧ y ≤ b) := fun a b y => by rw [← Bool.not_eq_true, hasS_iff]
  simp only [hn, and_true]
  omega
theorem mem3 (x : Nat) : (inB (([(0, 3), (5, 7)] : List Iv).map toS) x || inB (([(4, 4), (8, 9)] : List Iv).map toS) x) = inB ([(0, 9)] : List Sp) x := by
  show (inB ([(0, 3), (5, 7)] : List Sp) x || inB ([(4, 4), (8, 9)] : List Sp) x) = _
  apply in_iff
  simp only [in_cons, inB_nil, Bool.or_eq_true, hasS_iff, Bool.false_eq_true, or_false]
  omega
theorem mem4 (x : Nat) : (inB (([(0, 3), (5, 7)] : List Iv).map toS) x && inB (([(2, 5)] : List Iv).map toS) x) = inB ([(2, 3), (5, 5)] : List Sp) x := by
  show (inB ([(0, 3), (5, 7)] : List Sp) x && inB ([(2, 5)] : List Sp) x) = _
  apply in_iff
  simp only [in_cons, inB_nil, Bool.or_eq_true, Bool.and_eq_true, hasS_iff, Bool.false_eq_true, or_false]
  omega
end Go.Proofs.Ytmkbijnndbgjgaa.Iv
namespace Go.Proofs.Ytmkbijnndbgjgaa.Iv
open Go.RowKit
open Go.Proofs.Ytmkbijnndbgjgaa.Sp (Sp inB inB_iff inB_nil hasS hasS_iff Row rowB rowB_iff row_ext okS okS_iff okB okB_iff topN chk)
theorem set_get {w w' : World} {e : Ending} {ok : Bool} {m : Nat → Bool} {bd : Nat} (h : PostI w (SetI ok m bd) e w') (hok : ok = true) (hb : bd ≤ 1024) : ∃ u R, e = .returned (.tuple #[u, .int .i64 0]) ∧ HasI w' u (R.map ofS) ∧ Below w.heap.size w w' ∧ Row true R ∧ Tms R ∧ (∀ x, inB R x = m x) ∧ R.length ≤ bd := by
  obtain ⟨u, R, why, he, hO, hbl, _, h2⟩ := h
  rcases h2 hok with ⟨h3, h4, h4b, h5, h6, h7⟩ | ⟨h3, h4, L', h5, h6, h7, h8⟩
  · subst h3
    exact ⟨u, R, he, hO, hbl, h4, h4b, h5, h7⟩
  · omega
theorem set_bad {w w' : World} {e : Ending} {ok : Bool} {m : Nat → Bool} {bd : Nat} (h : PostI w (SetI ok m bd) e w') (hok : ok = false) : ∃ u, e = .returned (.tuple #[u, .int .i64 2]) ∧ HasI w' u [] ∧ Below w.heap.size w w' := by
  obtain ⟨u, R, why, he, hO, hbl, h2, _⟩ := h
  obtain ⟨a, b⟩ := h2 hok
  subst a b
  exact ⟨u, he, hO, hbl⟩
theorem map_to_of (R : List Sp) : (R.map ofS).map toS = R := by
  rw [List.map_map]
  exact (List.map_congr_left fun x _ => to_of x).trans (List.map_id _)
theorem okJ_of {R : List Sp} (h : Row true R) (ht : Tms R) (hl : R.length ≤ 1024) : okJ (R.map ofS) = true := by
  unfold okJ
  rw [tms_okI ht, map_to_of, Bool.true_and]
  exact okB_iff.2 ⟨hl, h⟩
theorem okJ_all {l : List Iv} (h : okJ l = true) : l.all okI = true := ((Bool.and_eq_true _ _).mp (show (l.all okI && okB true (l.map toS)) = true from h)).1
theorem okJ_row {l : List Iv} (h : okJ l = true) : Row true (l.map toS) := (okB_iff.1 ((Bool.and_eq_true _ _).mp (show (l.all okI && okB true (l.map toS)) = true from h)).2).2
theorem okJ_len {l : List Iv} (h : okJ l = true) : l.length ≤ 1024 := by
  have := (okB_iff.1 ((Bool.and_eq_true _ _).mp (show (l.all okI && okB true (l.map toS)) = true from h)).2).1
  rwa [List.length_map] at this
theorem has_of {R : List Sp} (h : Row true R) (ht : Tms R) (hl : R.length ≤ 1024) (t : Int) : hasJ (R.map ofS) t = (inI (R.map ofS) t, 0) := by unfold hasJ; rw [okJ_of h ht hl]; rfl
theorem in_two {l m : List Iv} {R : List Sp} {f : Bool → Bool → Bool} (hf : f false false = false) (hl : okJ l = true) (hm : okJ m = true) (ht : Tms R) (hR : ∀ x, inB R x = f (inB (l.map toS) x) (inB (m.map toS) x)) (t : Int) : inI (R.map ofS) t = f (inI l t) (inI m t) := by
  by_cases h0 : 0 ≤ t
  · rw [inI_to (tms_okI ht) h0, inI_to (okJ_all hl) h0, inI_to (okJ_all hm) h0, map_to_of, hR]
  · rw [inI_neg (tms_okI ht) (by omega), inI_neg (okJ_all hl) (by omega), inI_neg (okJ_all hm) (by omega), hf]
theorem in_not {l : List Iv} {wi : Iv} {R : List Sp} (hl : okJ l = true) (hw : okI wi = true) (ht : Tms R) (hR : ∀ x, inB R x = notM l wi x) (t : Int) : inI (R.map ofS) t = ((decide (wi.1 ≤ t) && decide (t ≤ wi.2)) && !inI l t) := by
  have hw3 := okI_iff.1 hw
  by_cases h0 : 0 ≤ t
  · rw [inI_to (tms_okI ht) h0, inI_to (okJ_all hl) h0, map_to_of, hR]
    unfold notM
    congr 2
    · rw [Bool.eq_iff_iff, decide_eq_true_iff, decide_eq_true_iff]; omega
    · rw [Bool.eq_iff_iff, decide_eq_true_iff, decide_eq_true_iff]; omega
  · rw [inI_neg (tms_okI ht) (by omega), decide_eq_false (by omega), Bool.false_and, Bool.false_and]
/-- how many there are below a bound -/
def cntN (L : List Sp) (n : Nat) : Nat := (List.range n).countP (fun x => inB L x)
theorem cnt_span (a b n : Nat) (h : a ≤ b) (hb : b < n) : (List.range n).countP (fun x => hasS (a, b) x) = b - a + 1 := by
  have key : ∀ n, (List.range n).countP (fun x => hasS (a, b) x) = min n (b + 1) - min n a := by
    intro n
    induction n with
    | zero => simp
    | succ n ih =>
      rw [List.range_succ, List.countP_append, ih, List.countP_singleton]
      by_cases h1 : hasS (a, b) n = true
      · rw [if_pos h1]
        have := hasS_iff.1 h1
        have t1 : a ≤ n := this.1
        have t2 : n ≤ b := this.2
        omega
      · rw [if_neg h1]
        have : ¬ (a ≤ n ∧ n ≤ b) := fun h2 => h1 (hasS_iff.2 h2)
        omega
  rw [key]; omega
theorem cnt_cons (s : Sp) (L : List Sp) (n : Nat) (hd : ∀ x, hasS s x = true → inB L x = false) : cntN (s :: L) n = (List.range n).countP (fun x => hasS s x) + cntN L n := by
  unfold cntN
  induction List.range n with
  | nil => rfl
  | cons y ys ih =>
    rw [List.countP_cons, List.countP_cons, List.countP_cons, ih]
    have e : inB (s :: L) y = (hasS s y || inB L y) := rfl
    rw [e]
    cases h1 : hasS s y
    · cases inB L y <;> simp <;> omega
    · rw [hd y h1]; simp; omega
theorem long_cons (x : Iv) (l : List Iv) : longI (x :: l) = (x.2 - x.1 + 1) + longI l := by
  have key : ∀ (l : List Iv) (a : Int), l.foldl (fun s x => s + (x.2 - x.1 + 1)) a = a + longI l := by
    intro l
    induction l with
    | nil => intro a; show a = a + 0; omega
    | cons y l ih =>
      intro a
      have e2 := ih (0 + (y.2 - y.1 + 1))
      have e1 := ih (a + (y.2 - y.1 + 1))
      show l.foldl _ (a + (y.2 - y.1 + 1)) = a + l.foldl _ (0 + (y.2 - y.1 + 1))
      rw [e1, e2]; omega
  show l.foldl _ (0 + (x.2 - x.1 + 1)) = _
  rw [key]; omega
theorem long_cnt (L : List Sp) (h : Row true L) (ht : Tms L) : longI (L.map ofS) = (cntN L (MaxT + 1) : Nat) := by
  induction L with
  | nil =>
    show (0 : Int) = _
    have : cntN [] (MaxT + 1) = 0 := by unfold cntN; rw [List.countP_eq_zero]; intro x _; simp [inB_nil]
    rw [this]; rfl
  | cons s L ih =>
    have hp := List.pairwise_cons.1 h.2
    have hs := ht s List.mem_cons_self
    have hr : Row true L := ⟨fun t ht2 => h.1 t (List.mem_cons_of_mem _ ht2), hp.2⟩
    have htl : Tms L := fun t ht2 => ht t (List.mem_cons_of_mem _ ht2)
    rw [List.map_cons, long_cons, ih hr htl, cnt_cons s L _ (fun x hx => ?_), cnt_span s.1 s.2 _ hs.1 (by omega)]
    · show ((s.2 : Int) - (s.1 : Int) + 1) + _ = _
      omega
    · have h1 := hasS_iff.1 hx
      rw [← Bool.not_eq_true, inB_iff]
      rintro ⟨t, ht2, a, b⟩
      have := hp.1 t ht2
      omega
theorem cnt_add {A B C D : List Sp} (n : Nat) (h1 : ∀ x, inB C x = (inB A x || inB B x)) (h2 : ∀ x, inB D x = (inB A x && inB B x)) : cntN A n + cntN B n = cntN C n + cntN D n := by
  unfold cntN
  induction List.range n with
  | nil => rfl
  | cons y ys ih =>
    rw [List.countP_cons, List.countP_cons, List.countP_cons, List.countP_cons, h1, h2]
    cases inB A y <;> cases inB B y <;> simp <;> omega
theorem long_two {l m : List Iv} {C D : List Sp} (hl : okJ l = true) (hm : okJ m = true) (hC : Row true C) (tC : Tms C) (hD : Row true D) (tD : Tms D) (h1 : ∀ x, inB C x = (inB (l.map toS) x || inB (m.map toS) x)) (h2 : ∀ x, inB D x = (inB (l.map toS) x && inB (m.map toS) x)) : longI l + longI m = longI (C.map ofS) + longI (D.map ofS) := by
  have e1 := long_cnt (l.map toS) (okJ_row hl) (tms_to (okJ_all hl))
  have e2 := long_cnt (m.map toS) (okJ_row hm) (tms_to (okJ_all hm))
  rw [map_of_to (okJ_all hl)] at e1
  rw [map_of_to (okJ_all hm)] at e2
  rw [e1, e2, long_cnt C hC tC, long_cnt D hD tD]
  have := cnt_add (MaxT + 1) h1 h2
  omega
theorem long_bd {l : List Iv} (hl : okJ l = true) : 0 ≤ longI l ∧ longI l ≤ 1099511627777 := by
  have e1 := long_cnt (l.map toS) (okJ_row hl) (tms_to (okJ_all hl))
  rw [map_of_to (okJ_all hl)] at e1
  have : cntN (l.map toS) (MaxT + 1) ≤ MaxT + 1 := by
    have := List.countP_le_length (p := fun x => inB (l.map toS) x) (l := List.range (MaxT + 1))
    rw [List.length_range] at this
    exact this
  unfold MaxT at this e1
  omega
theorem row_one {wi : Iv} (h : okI wi = true) : okJ [wi] = true := by
  have e : okI wi = true := h
  unfold okJ
  rw [List.all_cons, e]
  show okB true [toS wi] = true
  refine okB_iff.2 ⟨by simp, fun s hs => ?_, by simp⟩
  rw [List.mem_singleton.1 hs]; exact okS_to h
theorem long_not {l : List Iv} {wi : Iv} {R : List Sp} (hl : okJ l = true) (hw : okI wi = true) (hR : Row true R) (tR : Tms R) (h1 : ∀ x, inB R x = notM l wi x) (hin : ∀ x, inB (l.map toS) x = true → wi.1.toNat ≤ x ∧ x ≤ wi.2.toNat) : longI l + longI (R.map ofS) = wi.2 - wi.1 + 1 := by
  have hw3 := okI_iff.1 hw
  have o1 := row_one hw
  have e1 := long_cnt (l.map toS) (okJ_row hl) (tms_to (okJ_all hl))
  have e2 := long_cnt [toS wi] (okJ_row o1) (tms_to (okJ_all o1))
  rw [map_of_to (okJ_all hl)] at e1
  have e3 : longI [ofS (toS wi)] = wi.2 - wi.1 + 1 := by rw [of_to hw, long_cons]; show _ + (0 : Int) = _; omega
  have e4 : longI ([toS wi].map ofS) = longI [ofS (toS wi)] := rfl
  have e5 : cntN (l.map toS) (MaxT + 1) + cntN R (MaxT + 1) = cntN [toS wi] (MaxT + 1) + cntN [] (MaxT + 1) := by
    refine cnt_add (MaxT + 1) (fun x => ?_) (fun x => ?_)
    · rw [h1]
      have e6 : inB [toS wi] x = (decide (wi.1.toNat ≤ x) && decide (x ≤ wi.2.toNat)) := by
        rw [Bool.eq_iff_iff, inB_iff]
        simp only [List.mem_singleton, exists_eq_left, Bool.and_eq_true, decide_eq_true_eq]
        exact Iff.rfl
      rw [e6]
      unfold notM
      cases hq : inB (l.map toS) x
      · simp
      · have := hin x hq
        rw [decide_eq_true this.1, decide_eq_true this.2]; rfl
    · rw [h1, inB_nil]
      unfold notM
      cases inB (l.map toS) x <;> simp
  have e7 : cntN [] (MaxT + 1) = 0 := by unfold cntN; rw [List.countP_eq_zero]; intro x _; simp [inB_nil]
  rw [e1, long_cnt R hR tR]
  rw [← e3, ← e4, e2]
  omega
theorem twice_not {l : List Iv} {wi : Iv} {N K A : List Sp} (hl : okJ l = true) (hw : okI wi = true) (hN : ∀ x, inB N x = notM l wi x) (hK : Row true K) (h1 : ∀ x, inB K x = notM (N.map ofS) wi x) (hA : Row true A) (h2 : ∀ x, inB A x = (inB (l.map toS) x && inB ([wi].map toS) x)) : K = A := by
  refine row_ext hK hA (fun x => ?_)
  rw [h1, h2]
  have e6 : inB ([wi].map toS) x = (decide (wi.1.toNat ≤ x) && decide (x ≤ wi.2.toNat)) := by
    rw [Bool.eq_iff_iff, inB_iff]
    simp only [List.map_cons, List.map_nil, List.mem_singleton, exists_eq_left, Bool.and_eq_true, decide_eq_true_eq]
    exact Iff.rfl
  rw [e6]
  unfold notM
  rw [map_to_of, hN]
  unfold notM
  cases decide (wi.1.toNat ≤ x) <;> cases decide (x ≤ wi.2.toNat) <;> cases inB (l.map toS) x <;> rfl
end Go.Proofs.Ytmkbijnndbgjgaa.Iv
