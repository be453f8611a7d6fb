/- What the document's Wide, bits and of return. -/
import Derived.Test.YtengicljipfckaaAddrBits
import Derived.Test.YtengicljipfckaaAddrHalves
import Derived.OwnWalk
set_option linter.unusedVariables false
namespace Go.Proofs.Ytengicljipfckaa.Addr
open Go.RowKit

theorem rwide_any (six : Bool) (w : World) : Calls Try.prog 37 #[.bool six] w fun e w' => e = .returned (.int .i64 (wideN six : Int)) ∧ w' = w := by
  cases six
  · go_enter Try.func37, Try.ntmps37
    go_wp2
    go_ret
    exact ⟨rfl, rfl⟩
  · go_enter Try.func37, Try.ntmps37
    go_wp2
    go_ret
    exact ⟨rfl, rfl⟩
theorem info_int : (Try.prog.info? 3).map (fun i => (i.zero, i.size, i.bytes)) = some (some (.int .i64 0), 1, 8) := by kernel_rfl
theorem info_parts' {t : TypeId} {z : Option Value} {s b : Nat} (h : (Try.prog.info? t).map (fun i => (i.zero, i.size, i.bytes)) = some (z, s, b)) : ∃ i, Try.prog.info? t = some i ∧ i.zero = z ∧ i.size = s ∧ i.bytes = b := by
  cases hi : Try.prog.info? t with
  | none => rw [hi] at h; simp at h
  | some i => rw [hi] at h; simp at h; exact ⟨i, rfl, h.1, h.2.1, h.2.2⟩
def celN (l : List Nat) : List Value := l.map fun (b : Nat) => Value.int .i64 (b : Int)
theorem celN_len (l : List Nat) : (celN l).length = l.length := by simp [celN]
theorem celN_get (l : List Nat) (k : Nat) (h : k < l.length) : (celN l)[k]? = some (.int .i64 (l[k] : Int)) := by simp [celN, h]
theorem celN_set (l : List Nat) (k b : Nat) : (celN l).set k (.int .i64 (b : Int)) = celN (l.set k b) := by simp [celN, List.map_set]
/-- 'make([]int, n)' -/
theorem make_ints (w : World) (n : Nat) (h : n ≤ 1000000) (kl kc : IntKind) : (Instr.makeSlice 54 (.int kl (n : Int)) (.int kc (n : Int))).run Try.prog w = .ok (.slice (some ⟨w.heap.size, 0, none⟩) n n) (w.alloc (.cells (celN (List.replicate n 0)).toArray 3)) := by
  obtain ⟨i0, hi, hz0, hz1, hz2⟩ := info_parts' info_int
  have hr := run_make (P := Try.prog) w 54 3 i0 (.int .i64 0) Try.underlying54 hi hz0 kl kc n n (by omega) (Int.le_refl _) (by rw [hz2]; omega) (by omega)
  rw [hr, hz1, Int.toNat_natCast, Nat.mul_one]
  have e : madeCells (Value.int .i64 0).cells n = (celN (List.replicate n 0)).toArray := by
    apply Array.ext'
    refine (toList_madeCells_one (.int .i64 0) n).trans ?_
    simp [celN]
  rw [e]
/-- the row of bits, from the last one on, as far as t -/
def rowT (W n t : Nat) : List Nat := (List.range W).map fun j => if W - t ≤ j then (n.testBit (W - 1 - j)).toNat else 0
theorem rowT_len (W n t : Nat) : (rowT W n t).length = W := by simp [rowT]
theorem rowT_zero (W n : Nat) : rowT W n 0 = List.replicate W 0 := by
  apply List.ext_getElem
  · simp [rowT]
  · intro i h1 h2
    rw [rowT_len] at h1
    simp [rowT]; omega
theorem rowT_all (W n : Nat) : rowT W n W = bitL W n := by
  unfold rowT bitL
  apply List.map_congr_left
  intro j _
  rw [if_pos (by omega)]
theorem rowT_set (W n t : Nat) (h : t < W) : (rowT W n t).set (W - 1 - t) (n.testBit t).toNat = rowT W n (t + 1) := by
  apply List.ext_getElem
  · simp [rowT]
  · intro i h1 h2
    rw [rowT_len] at h2
    rw [List.getElem_set]
    by_cases hi : W - 1 - t = i
    · rw [if_pos hi]
      simp only [rowT, List.getElem_map, List.getElem_range]
      rw [if_pos (by omega), show W - 1 - i = t by omega]
    · rw [if_neg hi]
      simp only [rowT, List.getElem_map, List.getElem_range]
      by_cases h3 : W - t ≤ i
      · rw [if_pos h3, if_pos (by omega)]
      · rw [if_neg h3, if_neg (by omega)]
theorem half_num (m : Nat) (hm : m < 2 ^ 128) : loN m / 2 + hiN m % 2 * 9223372036854775808 = loN (m / 2) ∧ hiN m / 2 = hiN (m / 2) := by unfold loN hiN; omega
def BitsIs (L : List Nat) (w : World) (e : Ending) (w' : World) : Prop := ∃ g, e = .returned (.slice (some ⟨g, 0, none⟩) L.length L.length) ∧ w.heap.size ≤ g ∧ RowAt w' g (celN L) 3 ∧ Below w.heap.size w w'
set_option maxHeartbeats 2000000 in
set_option maxRecDepth 20000 in
theorem rbits_any (six : Bool) (n : Nat) (w : World) (hn : n < 2 ^ 128) : Calls Try.prog 34 #[.bool six, adV n] w (BitsIs (bitL (wideN six) n) w) := by
  have cw := fun w => rwide_any six w
  have hWl := wideN_le six
  have hWg := wideN_ge six
  obtain ⟨W, hWd⟩ : ∃ W, W = wideN six := ⟨_, rfl⟩
  rw [← hWd] at cw hWl hWg ⊢
  clear hWd
  have hmk := fun w => make_ints w W (by omega) .i64 .i64
  unfold adV
  obtain ⟨X, hX⟩ : ∃ X, X = w.alloc (.cells #[.int .u64 (hiN n : Int), .int .u64 (loN n : Int)] 24) := ⟨_, rfl⟩
  have hB0 : Below w.heap.size w X := by rw [hX]; exact below_new (Below.refl _ _) _
  have r0 : RowAt X w.heap.size [.int .u64 (hiN n : Int), .int .u64 (loN n : Int)] 24 := by rw [hX]; exact RowAt.new _ _ _
  obtain ⟨Y, hY⟩ : ∃ Y, Y = X.alloc (.cells (celN (List.replicate W 0)).toArray 3) := ⟨_, rfl⟩
  obtain ⟨g, hg⟩ : ∃ g, g = X.heap.size := ⟨_, rfl⟩
  have hmk := hmk X
  have r1 : RowAt Y g (celN (rowT W n 0)) 3 := by rw [hY, hg, rowT_zero]; exact RowAt.new _ _ _
  have hBY : Below w.heap.size w Y := by rw [hY]; exact below_new hB0 _
  have hwg : w.heap.size ≤ g := by rw [hg]; exact hB0.size
  have r0Y : RowAt Y w.heap.size [.int .u64 (hiN n : Int), .int .u64 (loN n : Int)] 24 := by rw [hY]; exact r0.alloc _
  have hWi : (W : Int) ≤ 128 := by omega
  have hWi2 : (32 : Int) ≤ (W : Int) := by omega
  go_enter Try.func34, Try.ntmps34
  go_wp2_with fail
  go_at_call 37; refine (cw _).mono ?_; rintro e w2 ⟨rfl, rfl⟩
  rw [← hX]
  clear hX hB0 r0
  go_upto_region 2 with fail
  rw [← hY, ← hg]
  clear hmk hY hg cw
  obtain ⟨q0, q1, qf⟩ := cells2 r0Y
  go_region
  go_wp2_with fail
  clear q0 q1 qf r0Y hmk
  have HN : Hid (n < 2 ^ 128) := hn
  have HP : Hid (BitsIs (bitL W n) w = BitsIs (bitL W n) w) := rfl
  go_loopw [6, 7, 8] (fun lo hi i wr => ∃ (t : Nat) (x : Int), t ≤ W ∧ lo = .int .u64 (loN (n / 2 ^ t) : Int) ∧ hi = .int .u64 (hiN (n / 2 ^ t) : Int) ∧ i = .int .i64 x ∧ Hid (x = (W : Int) - 1 - (t : Int)) ∧ RowAt wr g (celN (rowT W n t)) 3 ∧ Below w.heap.size w wr) (fun _ _ i _ => (intOf i + 1).toNat)
  case atStart => exact ⟨0, (W : Int) - 1, by omega, by simp, by simp, rfl, (by show _ = _; omega), r1.drew, below_drew hBY⟩
  case round =>
    obtain ⟨t, x, ht, rfl, rfl, rfl, HX, hr, hb⟩ := hrel
    clear r1 hBY
    by_cases hlt : t < W
    · obtain ⟨i, hi⟩ : ∃ i : Nat, i = W - 1 - t := ⟨_, rfl⟩
      obtain rfl : x = (i : Int) := by have := HX.out; omega
      have hxi : (i : Int) < (W : Int) := by omega
      have d0 : decide ((0 : Int) ≤ (i : Int)) = true := decide_eq_true (by omega)
      have hcell : wr.cell? ⟨g, i, none⟩ = some (.int .i64 ((rowT W n t)[i]'(by rw [rowT_len]; omega) : Int)) := by rw [hr.cell, celN_get]
      have hfz : wr.frozen? ⟨g, i, none⟩ = false := hr.frozen i
      have hm := half_num (n / 2 ^ t) (Nat.lt_of_le_of_lt (Nat.div_le_self _ _) HN.out)
      rw [Nat.div_div_eq_div_mul, ← Nat.pow_succ] at hm
      have hlo := loN_lt (n / 2 ^ t)
      have hhi := hiN_lt (Nat.lt_of_le_of_lt (Nat.div_le_self n (2 ^ t)) HN.out)
      have hbit : loN (n / 2 ^ t) % 2 = (n.testBit t).toNat := by rw [Nat.toNat_testBit]; unfold loN; omega
      have hset := rowT_set W n t hlt
      rw [← hi, ← hbit] at hset
      have HS : Hid (∀ W' : World, RowAt W' g (celN (rowT W n t)) 3 → RowAt (W'.setCell ⟨g, i, none⟩ (.int .i64 ((loN (n / 2 ^ t) % 2 : Nat) : Int))) g (celN (rowT W n (t + 1))) 3) := fun W' h => by
        have := h.set1 i (.int .i64 ((loN (n / 2 ^ t) % 2 : Nat) : Int))
        rw [celN_set, hset] at this
        exact this
      have HH1 : Hid (loN (n / 2 ^ t) / 2 + hiN (n / 2 ^ t) % 2 * 9223372036854775808 = loN (n / 2 ^ (t + 1))) := hm.1
      have HH2 : Hid (hiN (n / 2 ^ t) / 2 = hiN (n / 2 ^ (t + 1))) := hm.2
      generalize (rowT W n t)[i]'(by rw [rowT_len]; omega) = old at hcell
      clear hm hset hbit
      generalize loN (n / 2 ^ t) = lo at *
      generalize hiN (n / 2 ^ t) = hh at *
      have hloi : (lo : Int) ≤ 18446744073709551615 := by omega
      have hhii : (hh : Int) ≤ 18446744073709551615 := by omega
      have HR : Hid (RowAt wr g (celN (rowT W n t)) 3) := hr
      have HI : Hid (i = W - 1 - t) := hi
      clear hlo hhi hr hi
      go_wp2_with fail
      go_roundw
      case rel =>
        refine ⟨t + 1, (i : Int) - 1, by omega, ?_, ?_, rfl, (by show _ = _; have := HI.out; omega), ?_, ?_⟩
        · rw [← HH1.out]; go_num
        · rw [← HH2.out]; go_num
        · exact HS.out _ HR.out
        · exact bset hb (by omega)
      case measure => simp [intOf]
    · obtain rfl : t = W := by omega
      obtain rfl : x = -1 := by have := HX.out; omega
      rw [rowT_all] at hr
      have HR : Hid (RowAt wr g (celN (bitL t n)) 3) := hr
      clear hr
      go_wp2_with fail
      go_ret
      exact ⟨g, by rw [bitL_len]; rfl, hwg, HR.out, hb⟩
theorem of_step (m b : Nat) (hm : m < 2 ^ 128) (hb : b ≤ 1) : IntKind.u64.wrap (IntKind.u64.wrap (2 * (hiN m : Int)) + (loN m : Int) / 9223372036854775808) = (hiN ((2 * m + b) % 2 ^ 128) : Int) ∧ IntKind.u64.wrap (IntKind.u64.wrap (2 * (loN m : Int)) + (b : Int)) = (loN ((2 * m + b) % 2 ^ 128) : Int) := by
  rw [IntKind.wrap_u64, IntKind.wrap_u64, IntKind.wrap_u64, IntKind.wrap_u64]
  unfold hiN loN
  constructor <;> omega
set_option maxHeartbeats 2000000 in
set_option maxRecDepth 20000 in
theorem rof_any (l : List Nat) (g off cap : Nat) (w : World) (hl : l.length ≤ 1000000) (h1 : ∀ b ∈ l, b ≤ 1) (hc : ∀ j (hj : j < l.length), w.cell? ⟨g, off + j, none⟩ = some (.int .i64 (l[j] : Int))) (hgw : l ≠ [] → g < w.heap.size) : Calls Try.prog 35 #[.slice (some ⟨g, off, none⟩) l.length cap] w fun e w' => e = .returned (adV (ofL l)) ∧ Below w.heap.size w w' := by
  obtain ⟨X, hX⟩ : ∃ X, X = (w.alloc (.cells #[.int .u64 0, .int .u64 0] 24)).alloc (.cells #[.int .u64 0, .int .u64 0] 24) := ⟨_, rfl⟩
  have hB0 : Below w.heap.size w X := by rw [hX]; exact below_new (below_new (Below.refl _ _) _) _
  have r0 : RowAt X w.heap.size [.int .u64 0, .int .u64 0] 24 := by rw [hX]; exact (RowAt.new _ _ _).alloc _
  have r1 : RowAt X (w.heap.size + 1) [.int .u64 0, .int .u64 0] 24 := by rw [hX, ← World.size_alloc w (.cells #[.int .u64 0, .int .u64 0] 24)]; exact RowAt.new _ _ _
  obtain ⟨N, hN⟩ : ∃ N, N = l.length := ⟨_, rfl⟩
  have HN : Hid (N = l.length) := hN
  have HC : Hid (∀ j (hj : j < l.length), w.cell? ⟨g, off + j, none⟩ = some (.int .i64 (l[j] : Int))) := hc
  have H1 : Hid (∀ b ∈ l, b ≤ 1) := h1
  have HG : Hid (l ≠ [] → g < w.heap.size) := hgw
  have hNi : (N : Int) ≤ 1000000 := by omega
  rw [← hN]
  have HV : Hid (adV (ofL l) = .agg #[.int .u64 (hiN (ofL l) : Int), .int .u64 (loN (ofL l) : Int)]) := rfl
  generalize adV (ofL l) = V at HV ⊢
  clear hN hc h1 hl hgw
  go_enter Try.func35, Try.ntmps35
  go_upto_region 2 with fail
  rw [← hX]
  clear hX
  go_wp2_with fail
  go_loopw [9] (fun i wr => ∃ k : Nat, k ≤ N ∧ i = .int .i64 (k : Int) ∧ RowAt wr (w.heap.size + 1) [.int .u64 (hiN (ofL (l.take k)) : Int), .int .u64 (loN (ofL (l.take k)) : Int)] 24 ∧ RowAt wr w.heap.size [.int .u64 0, .int .u64 0] 24 ∧ Below w.heap.size w wr) (fun i _ => N - (intOf i).toNat)
  case atStart => exact ⟨0, by omega, rfl, by simpa [ofL, hiN, loN] using r1, r0, hB0⟩
  case round =>
    obtain ⟨k, hk, rfl, ra, rb, hb⟩ := hrel
    clear r0 r1 hB0
    by_cases hlt : k < N
    · have hkl : k < l.length := by rw [← HN.out]; exact hlt
      have hgw := HG.out (fun e => by rw [e] at hkl; simp at hkl)
      have hcell := (hb.cell (p := ⟨g, off + k, none⟩) hgw).trans (HC.out k hkl)
      have hb1 := H1.out _ (List.getElem_mem hkl)
      have hst := of_step (ofL (l.take k)) l[k] (ofL_lt _) hb1
      rw [← ofL_take l k hkl] at hst
      have hki : (k : Int) < (N : Int) := by omega
      generalize l[k] = b at *
      have hlo := loN_lt (ofL (l.take k))
      have hhi := hiN_lt (ofL_lt (l.take k))
      obtain ⟨q0, q1, qf⟩ := cells2 ra
      have HA : Hid (RowAt wr (w.heap.size + 1) [.int .u64 (hiN (ofL (l.take k)) : Int), .int .u64 (loN (ofL (l.take k)) : Int)] 24) := ra
      have HRb : Hid (RowAt wr w.heap.size [.int .u64 0, .int .u64 0] 24) := rb
      have HE1 : Hid (IntKind.u64.wrap (IntKind.u64.wrap (2 * (hiN (ofL (l.take k)) : Int)) + (loN (ofL (l.take k)) : Int) / 9223372036854775808) = (hiN (ofL (l.take (k + 1))) : Int)) := hst.1
      have HE2 : Hid (IntKind.u64.wrap (IntKind.u64.wrap (2 * (loN (ofL (l.take k)) : Int)) + (b : Int)) = (loN (ofL (l.take (k + 1))) : Int)) := hst.2
      clear hst ra rb
      generalize hiN (ofL (l.take k)) = hh at *
      generalize loN (ofL (l.take k)) = lo at *
      have hloi : (lo : Int) ≤ 18446744073709551615 := by omega
      have hhii : (hh : Int) ≤ 18446744073709551615 := by omega
      have hbi : (b : Int) ≤ 1 := by omega
      clear hlo hhi
      go_wp2_with fail
      go_roundw
      case rel =>
        refine ⟨k + 1, by omega, by go_num, ?_, (HRb.out.far1 (by omega) _ _).far1 (by omega) _ _, bset (bset hb (by omega)) (by omega)⟩
        have h := (HA.out.set1 0 (.int .u64 (IntKind.u64.wrap (IntKind.u64.wrap (2 * (hh : Int)) + (lo : Int) / 9223372036854775808)))).set1 1 (.int .u64 (IntKind.u64.wrap (IntKind.u64.wrap (2 * (lo : Int)) + (b : Int))))
        rw [← HE1.out, ← HE2.out]
        exact h
      case measure => simp [intOf]; omega
    · obtain rfl : k = N := by omega
      rw [show l.take k = l by rw [HN.out, List.take_length]] at ra
      obtain ⟨q0, q1, qf⟩ := cells2 ra
      obtain ⟨p0, p1, pf⟩ := cells2 rb
      generalize hiN (ofL l) = hh at *
      generalize loN (ofL l) = lo at *
      clear ra rb
      go_wp2_with fail
      (try simp only [Exit.inBlock, Exit.then])
      refine bodyPost_ret (v := .agg #[.int .u64 (hh : Int), .int .u64 (lo : Int)]) ?_ rfl ⟨by rw [HV.out], ?_⟩
      · rw [results_cell rfl]
        go_simp
      · repeat' (first | with_reducible exact hb | with_reducible apply below_new | with_reducible refine bset ?_ (by omega))
end Go.Proofs.Ytengicljipfckaa.Addr
