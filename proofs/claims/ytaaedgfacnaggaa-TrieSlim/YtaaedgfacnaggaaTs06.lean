/- What the document's Right, Cmp, turned, Next and Prev return. -/
import Derived.Test.YtaaedgfacnaggaaTs03
import Derived.Deep.DeepCutAuto
import Derived.Test.YtaaedgfacnaggaaTs05
import Derived.OwnWalk
set_option linter.unusedVariables false
namespace Go.Proofs.Ytaaedgfacnaggaa.Addr
open Go.RowKit

theorem or_hi (n k : Nat) (hn : n < 2 ^ 128) (hk : k ≤ 128) (h0 : n % 2 ^ k = 0) : bits .or .u64 (hiN n : Int) (hiN (freeN k) : Int) = ((hiN (n + freeN k) : Nat) : Int) := by
  have h1 := hiN_lt hn
  have hp := Nat.two_pow_pos (k - 64)
  have hle : 2 ^ (k - 64) ≤ 2 ^ 64 := Nat.pow_le_pow_right (by decide) (by omega)
  rw [free_hi, u64_or_nat _ _ h1 (by omega), or_pow _ _ (zero_parts h0).1, (add_free h0).1]
theorem or_lo (n k : Nat) (hk : k ≤ 128) (h0 : n % 2 ^ k = 0) : bits .or .u64 (loN n : Int) (loN (freeN k) : Int) = ((loN (n + freeN k) : Nat) : Int) := by
  have h1 := loN_lt n
  have hp := Nat.two_pow_pos (min k 64)
  have hle : 2 ^ (min k 64) ≤ 2 ^ 64 := Nat.pow_le_pow_right (by decide) (by omega)
  rw [free_lo, u64_or_nat _ _ h1 (by omega), or_pow _ _ (zero_parts h0).2, (add_free h0).2]
set_option maxHeartbeats 2000000 in
theorem last_any (p : Pf) (w : World) (hl : -9223372036854775808 ≤ p.len ∧ p.len ≤ 9223372036854775807) (ha : p.n < 2 ^ 128) : Calls Try.prog 33 #[pfV p] w fun e w' => e = .returned (.tuple #[adV (lastE p).1, .int .i64 (lastE p).2]) ∧ Below w.heap.size w w' := by
  have cc := fun w => check_any p w hl ha
  cases hok : okP p
  · have e1 : lastE p = (0, 2) := by unfold lastE; rw [hok]; rfl
    rw [e1]
    rw [checkP_bad hok] at cc
    have hz : adV 0 = .agg #[.int .u64 0, .int .u64 0] := rfl
    simp only [hz]
    unfold pfV at *
    generalize hiN p.n = h at *
    generalize loN p.n = l at *
    generalize p.six = six at *
    generalize p.len = len at *
    clear hok e1 ha hl hz
    obtain ⟨X, hX⟩ : ∃ X, X = (w.alloc (.cells #[.bool six, .int .u64 (h : Int), .int .u64 (l : Int), .int .i64 len] 32)).alloc (.cells #[.int .u64 0, .int .u64 0] 25) := ⟨_, rfl⟩
    have hB0 : Below w.heap.size w X := by rw [hX]; exact below_new (below_new (Below.refl _ _) _) _
    have r1 : RowAt X (w.heap.size + 1) [.int .u64 0, .int .u64 0] 25 := by rw [hX, ← World.size_alloc w (.cells #[.bool six, .int .u64 (h : Int), .int .u64 (l : Int), .int .i64 len] 32)]; exact RowAt.new _ _ _
    go_enter Try.func33, Try.ntmps33
    go_wp2_with fail
    go_at_call 32; refine (cc _).mono ?_; rintro e w2 ⟨rfl, hb2⟩
    rw [← hX] at hb2
    have hW := below2 hB0 hb2
    obtain ⟨q0, q1, qf⟩ := cells2 (r1.below hb2)
    clear hX cc r1 hB0 hb2
    go_wp2_with fail
    (try simp only [Exit.inBlock, Exit.then])
    refine bodyPost_ret (v := .tuple #[.agg #[.int .u64 0, .int .u64 0], .int .i64 2]) ?_ rfl ⟨rfl, ?_⟩
    · rw [results_cell_tmp rfl]
      go_simp
    · repeat' (first | with_reducible exact hW | with_reducible apply below_new | with_reducible refine bset ?_ (by omega))
  · have e1 : lastE p = (p.n + freeN (kP p), 0) := by unfold lastE; rw [hok]; rfl
    rw [e1]
    rw [checkP_ok hok] at cc
    have hk : kP p ≤ 128 := by have := wideN_le p.six; unfold kP; omega
    have o1 := or_hi p.n (kP p) ha hk (okP_zero hok)
    have o2 := or_lo p.n (kP p) hk (okP_zero hok)
    have cf := fun w => free_any p w (okP_iff.1 hok).1
    unfold pfV adV at *
    simp only at *
    generalize p.n + freeN (kP p) = r at *
    generalize freeN (kP p) = f at *
    generalize hiN f = fh at *
    generalize loN f = fl at *
    generalize hiN r = rh at *
    generalize loN r = rl at *
    generalize hiN p.n = h at *
    generalize loN p.n = l at *
    generalize p.six = six at *
    generalize p.len = len at *
    clear hok e1 ha hl hk
    obtain ⟨X, hX⟩ : ∃ X, X = (w.alloc (.cells #[.bool six, .int .u64 (h : Int), .int .u64 (l : Int), .int .i64 len] 32)).alloc (.cells #[.int .u64 0, .int .u64 0] 25) := ⟨_, rfl⟩
    have hB0 : Below w.heap.size w X := by rw [hX]; exact below_new (below_new (Below.refl _ _) _) _
    have r0 : RowAt X w.heap.size [.bool six, .int .u64 (h : Int), .int .u64 (l : Int), .int .i64 len] 32 := by rw [hX]; exact (RowAt.new _ _ _).alloc _
    have r1 : RowAt X (w.heap.size + 1) [.int .u64 0, .int .u64 0] 25 := by rw [hX, ← World.size_alloc w (.cells #[.bool six, .int .u64 (h : Int), .int .u64 (l : Int), .int .i64 len] 32)]; exact RowAt.new _ _ _
    go_enter Try.func33, Try.ntmps33
    go_wp2_with fail
    go_at_call 32; refine (cc _).mono ?_; rintro e w2 ⟨rfl, hb2⟩
    rw [← hX] at hb2
    have hW := below2 hB0 hb2
    have r0 := r0.below hb2
    have r1 := r1.below hb2
    obtain ⟨q0, q1, q2, q3, qf⟩ := cells4 r0
    clear hX cc hB0 hb2
    go_wp2_with fail
    go_at_call 56; refine (cf _).mono ?_; rintro e w3 ⟨rfl, hb3⟩
    clear q0 q1 q2 q3 qf
    have hW := below2 hW hb3
    obtain ⟨q0, q1, q2, q3, qf⟩ := cells4 (r0.below hb3)
    obtain ⟨p0, p1, pf⟩ := cells2 (r1.below hb3)
    have l0 := (r0.below hb3).lt
    have l1 := (r1.below hb3).lt
    clear cf r0 r1 hb3
    go_wp2_with fail
    (try simp only [Exit.inBlock, Exit.then])
    refine bodyPost_ret (v := .tuple #[.agg #[.int .u64 (rh : Int), .int .u64 (rl : Int)], .int .i64 0]) ?_ rfl ⟨rfl, ?_⟩
    · rw [results_cell_tmp rfl]
      go_simp
    · repeat' (first | with_reducible exact hW | with_reducible apply below_new | with_reducible refine bset ?_ (by omega))
end Go.Proofs.Ytaaedgfacnaggaa.Addr
namespace Go.Proofs.Ytaaedgfacnaggaa.Addr
open Go.RowKit

set_option maxHeartbeats 4000000 in
theorem has_any (p : Pf) (six : Bool) (a : Nat) (w : World) (hl : -9223372036854775808 ≤ p.len ∧ p.len ≤ 9223372036854775807) (hn : p.n < 2 ^ 128) (ha : a < 2 ^ 128) : Calls Try.prog 63 #[pfV p, .bool six, adV a] w fun e w' => e = .returned (.bool (hasB p six a)) ∧ Below w.heap.size w w' := by
  have cc := fun w => check_any p w hl hn
  have cr := fun w => right_any six a w ha
  have cf : 0 ≤ p.len ∧ p.len ≤ (wideN p.six : Int) → ∀ w, Calls Try.prog 55 #[pfV p, adV a] w fun e w' => e = .returned (adV (firstN (kP p) a)) ∧ Below w.heap.size w w' := fun h w => first_any p a w h ha
  have heq := fun w => ad_eql (firstN (kP p) a) p.n w
  have hgd := ad_guard
  obtain ⟨X, hX⟩ : ∃ X, X = (w.alloc (.cells #[.bool p.six, .int .u64 (hiN p.n : Int), .int .u64 (loN p.n : Int), .int .i64 p.len] 32)).alloc (.cells #[.int .u64 (hiN a : Int), .int .u64 (loN a : Int)] 25) := ⟨_, rfl⟩
  have hB0 : Below w.heap.size w X := by rw [hX]; exact below_new (below_new (Below.refl _ _) _) _
  have r0 : RowAt X w.heap.size [.bool p.six, .int .u64 (hiN p.n : Int), .int .u64 (loN p.n : Int), .int .i64 p.len] 32 := by rw [hX]; exact (RowAt.new _ _ _).alloc _
  have r1 : RowAt X (w.heap.size + 1) [.int .u64 (hiN a : Int), .int .u64 (loN a : Int)] 25 := by rw [hX, ← World.size_alloc w (.cells #[.bool p.six, .int .u64 (hiN p.n : Int), .int .u64 (loN p.n : Int), .int .i64 p.len] 32)]; exact RowAt.new _ _ _
  have q0 : ∀ b : Bl X, b.W.cell? ⟨w.heap.size, 0, none⟩ = some (.bool p.six) := fun p => (r0.below p.h).cell 0
  have q1 : ∀ b : Bl X, b.W.cell? ⟨w.heap.size, 1, none⟩ = some (.int .u64 (hiN p.n : Int)) := fun p => (r0.below p.h).cell 1
  have q2 : ∀ b : Bl X, b.W.cell? ⟨w.heap.size, 2, none⟩ = some (.int .u64 (loN p.n : Int)) := fun p => (r0.below p.h).cell 2
  have q3 : ∀ b : Bl X, b.W.cell? ⟨w.heap.size, 3, none⟩ = some (.int .i64 p.len) := fun p => (r0.below p.h).cell 3
  have p0 : ∀ b : Bl X, b.W.cell? ⟨w.heap.size + 1, 0, none⟩ = some (.int .u64 (hiN a : Int)) := fun p => (r1.below p.h).cell 0
  have p1 : ∀ b : Bl X, b.W.cell? ⟨w.heap.size + 1, 1, none⟩ = some (.int .u64 (loN a : Int)) := fun p => (r1.below p.h).cell 1
  clear r0 r1
  have HH : Hid (hasB p six a = (okP p && (decide (p.six = six) && (rightB six a && decide (firstN (kP p) a = p.n))))) := rfl
  generalize hasB p six a = R at *
  cases hok : okP p
  · rw [checkP_bad hok] at cc
    have HV : Hid (R = false) := by show _ = _; rw [HH.out, hok]; rfl
    clear HH cf heq hok
    unfold pfV adV at *
    generalize hiN p.n = h at *
    generalize loN p.n = l at *
    generalize hiN a = ah at *
    generalize loN a = al at *
    generalize p.six = sx at *
    generalize p.len = len at *
    clear hl hn ha
    go_enter Try.func63, Try.ntmps63
    go_wp2_with fail
    rw [← hX]
    clear hX
    haveI := bl_ne X
    refine wp_region_bl (by kernel_rfl) (by kernel_rfl) ?_
    repeat (quiet_step (first | (go_at_call 32; exact bl_call (cc _))))
    refine wpQuiet_nil ?_
    intro wq hw'
    obtain ⟨⟨wz, hq⟩, hw2⟩ := hw'
    subst hw2
    have hW := below2 hB0 hq
    go_wp2_with fail
    go_ret
    exact ⟨by rw [HV.out]; rfl, hW⟩
  rw [checkP_ok hok] at cc
  have cf := cf (okP_iff.1 hok).1
  rw [hok] at HH
  clear hok
  by_cases hs : p.six = six
  · rw [decide_eq_true hs] at HH
    subst hs
    cases hr : rightB p.six a
    · rw [hr] at cr HH
      have HV : Hid (R = false) := by show _ = _; rw [HH.out]; rfl
      clear HH cf heq hr
      unfold pfV adV at *
      generalize hiN p.n = h at *
      generalize loN p.n = l at *
      generalize hiN a = ah at *
      generalize loN a = al at *
      generalize p.six = sx at *
      generalize p.len = len at *
      clear hl hn ha
      go_enter Try.func63, Try.ntmps63
      go_wp2_with fail
      rw [← hX]
      clear hX
      haveI := bl_ne X
      refine wp_region_bl (by kernel_rfl) (by kernel_rfl) ?_
      repeat (quiet_step (first | (go_at_call 32; exact bl_call (cc _)) | (go_at_call 19; exact bl_call (cr _))))
      refine wpQuiet_nil ?_
      intro wq hw'
      obtain ⟨⟨wz, hq⟩, hw2⟩ := hw'
      subst hw2
      have hW := below2 hB0 hq
      go_wp2_with fail
      go_ret
      exact ⟨by rw [HV.out]; rfl, hW⟩
    · rw [hr] at cr HH
      have HV : Hid (R = decide (firstN (kP p) a = p.n)) := by show _ = _; rw [HH.out]; rfl
      clear HH hr
      generalize decide (firstN (kP p) a = p.n) = E at *
      unfold pfV adV at *
      generalize firstN (kP p) a = f at *
      generalize hiN f = fh at *
      generalize loN f = fl at *
      generalize hiN p.n = h at *
      generalize loN p.n = l at *
      generalize hiN a = ah at *
      generalize loN a = al at *
      generalize p.six = sx at *
      generalize p.len = len at *
      clear hl hn ha
      go_enter Try.func63, Try.ntmps63
      go_wp2_with fail
      rw [← hX]
      clear hX
      haveI := bl_ne X
      refine wp_region_bl (by kernel_rfl) (by kernel_rfl) ?_
      repeat (quiet_step (first | (go_at_call 32; exact bl_call (cc _)) | (go_at_call 19; exact bl_call (cr _)) | (go_at_call 55; exact bl_call (cf _))))
      refine wpQuiet_nil ?_
      intro wq hw'
      obtain ⟨⟨wz, hq⟩, hw2⟩ := hw'
      subst hw2
      have hW := below2 hB0 hq
      go_wp2_with fail
      go_ret
      exact ⟨by rw [HV.out]; rfl, hW⟩
  · have HV : Hid (R = false) := by show _ = _; rw [HH.out, decide_eq_false hs]; rfl
    have hs2 : (p.six == six) = false := by simpa using hs
    clear HH cf heq
    unfold pfV adV at *
    generalize hiN p.n = h at *
    generalize loN p.n = l at *
    generalize hiN a = ah at *
    generalize loN a = al at *
    generalize p.six = sx at *
    generalize p.len = len at *
    clear hl hn ha cr
    go_enter Try.func63, Try.ntmps63
    go_wp2_with fail
    rw [← hX]
    clear hX
    haveI := bl_ne X
    refine wp_region_bl (by kernel_rfl) (by kernel_rfl) ?_
    repeat (quiet_step (first | (go_at_call 32; exact bl_call (cc _))))
    refine wpQuiet_nil ?_
    intro wq hw'
    obtain ⟨⟨wz, hq⟩, hw2⟩ := hw'
    subst hw2
    have hW := below2 hB0 hq
    go_wp2_with fail
    go_ret
    exact ⟨by rw [HV.out]; rfl, hW⟩
end Go.Proofs.Ytaaedgfacnaggaa.Addr
namespace Go.Proofs.Ytaaedgfacnaggaa.Addr
open Go.RowKit

set_option maxHeartbeats 2000000 in
theorem covers_any (p q : Pf) (w : World) (hl : -9223372036854775808 ≤ p.len ∧ p.len ≤ 9223372036854775807) (hn : p.n < 2 ^ 128) (hl2 : -9223372036854775808 ≤ q.len ∧ q.len ≤ 9223372036854775807) (hn2 : q.n < 2 ^ 128) : Calls Try.prog 68 #[pfV p, pfV q] w fun e w' => e = .returned (.bool (coversB p q)) ∧ Below w.heap.size w w' := by
  have cc := fun w => check_any q w hl2 hn2
  have ch := fun w => has_any p q.six q.n w hl hn hn2
  obtain ⟨X, hX⟩ : ∃ X, X = (w.alloc (.cells #[.bool p.six, .int .u64 (hiN p.n : Int), .int .u64 (loN p.n : Int), .int .i64 p.len] 32)).alloc (.cells #[.bool q.six, .int .u64 (hiN q.n : Int), .int .u64 (loN q.n : Int), .int .i64 q.len] 32) := ⟨_, rfl⟩
  have hB0 : Below w.heap.size w X := by rw [hX]; exact below_new (below_new (Below.refl _ _) _) _
  have r0 : RowAt X w.heap.size [.bool p.six, .int .u64 (hiN p.n : Int), .int .u64 (loN p.n : Int), .int .i64 p.len] 32 := by rw [hX]; exact (RowAt.new _ _ _).alloc _
  have r1 : RowAt X (w.heap.size + 1) [.bool q.six, .int .u64 (hiN q.n : Int), .int .u64 (loN q.n : Int), .int .i64 q.len] 32 := by rw [hX, ← World.size_alloc w (.cells #[.bool p.six, .int .u64 (hiN p.n : Int), .int .u64 (loN p.n : Int), .int .i64 p.len] 32)]; exact RowAt.new _ _ _
  have HH : Hid (coversB p q = (okP q && (decide (p.len ≤ q.len) && hasB p q.six q.n))) := rfl
  generalize coversB p q = R at *
  generalize hasB p q.six q.n = HB at *
  cases hok : okP q
  · rw [checkP_bad hok] at cc
    have HV : Hid (R = false) := by show _ = _; rw [HH.out, hok]; rfl
    clear HH hok ch hl hl2 hn hn2
    unfold pfV at *
    (try unfold adV at *)
    generalize hiN p.n = h at *
    generalize loN p.n = l at *
    generalize hiN q.n = qh at *
    generalize loN q.n = ql at *
    generalize p.six = sx at *
    generalize p.len = len at *
    generalize q.six = qs at *
    generalize q.len = qn at *
    go_enter Try.func68, Try.ntmps68
    go_wp2_with fail
    go_at_call 32; refine (cc _).mono ?_; rintro e w2 ⟨rfl, hb2⟩
    rw [← hX] at hb2
    have hW := below2 hB0 hb2
    clear hX cc hB0 r0 r1 hb2
    go_wp2_with fail
    go_ret
    exact ⟨by rw [HV.out]; rfl, hW⟩
  rw [checkP_ok hok] at cc
  rw [hok] at HH
  clear hok
  by_cases hs : p.len ≤ q.len
  · have HV : Hid (R = HB) := by show _ = _; rw [HH.out, decide_eq_true hs]; simp
    have hd : decide (p.len ≤ q.len) = true := decide_eq_true hs
    clear HH hl hl2 hn hn2 hs
    unfold pfV at *
    (try unfold adV at *)
    generalize hiN p.n = h at *
    generalize loN p.n = l at *
    generalize hiN q.n = qh at *
    generalize loN q.n = ql at *
    generalize p.six = sx at *
    generalize p.len = len at *
    generalize q.six = qs at *
    generalize q.len = qn at *
    go_enter Try.func68, Try.ntmps68
    go_wp2_with fail
    go_at_call 32; refine (cc _).mono ?_; rintro e w2 ⟨rfl, hb2⟩
    rw [← hX] at hb2
    have hW := below2 hB0 hb2
    obtain ⟨q0, q1, q2, q3, qf⟩ := cells4 (r0.below hb2)
    obtain ⟨p0, p1, p2, p3, pf⟩ := cells4 (r1.below hb2)
    clear hX cc hB0 r0 r1 hb2
    go_wp2_with fail
    go_at_call 63; refine (ch _).mono ?_; rintro e w3 ⟨rfl, hb3⟩
    have hW := below2 hW hb3
    clear ch
    go_wp2_with fail
    go_ret
    exact ⟨by rw [HV.out]; rfl, hW⟩
  · have HV : Hid (R = false) := by show _ = _; rw [HH.out, decide_eq_false hs]; rfl
    have hd : decide (p.len ≤ q.len) = false := decide_eq_false hs
    clear HH ch hl hl2 hn hn2 hs
    unfold pfV at *
    (try unfold adV at *)
    generalize hiN p.n = h at *
    generalize loN p.n = l at *
    generalize hiN q.n = qh at *
    generalize loN q.n = ql at *
    generalize p.six = sx at *
    generalize p.len = len at *
    generalize q.six = qs at *
    generalize q.len = qn at *
    go_enter Try.func68, Try.ntmps68
    go_wp2_with fail
    go_at_call 32; refine (cc _).mono ?_; rintro e w2 ⟨rfl, hb2⟩
    rw [← hX] at hb2
    have hW := below2 hB0 hb2
    obtain ⟨q0, q1, q2, q3, qf⟩ := cells4 (r0.below hb2)
    obtain ⟨p0, p1, p2, p3, pf⟩ := cells4 (r1.below hb2)
    clear hX cc hB0 r0 r1 hb2
    go_wp2_with fail
    go_ret
    exact ⟨by rw [HV.out]; rfl, hW⟩
theorem RowAt.set1 {W : World} {g : Nat} {cs : List Value} {t : TypeId} (h : RowAt W g cs t) (k : Nat) (v : Value) : RowAt (W.setCell ⟨g, k, none⟩ v) g (cs.set k v) t := by
  unfold RowAt at *
  simp only [World.setCell]
  rw [Array.getElem?_modify, if_pos rfl, h]
  simp
end Go.Proofs.Ytaaedgfacnaggaa.Addr
namespace Go.Proofs.Ytaaedgfacnaggaa.Addr
open Go.RowKit

theorem rwide_any (six : Bool) (w : World) : Calls Try.prog 49 #[.bool six] w fun e w' => e = .returned (.int .i64 (wideN six : Int)) ∧ w' = w := by
  cases six
  · go_enter Try.func49, Try.ntmps49
    go_wp2
    go_ret
    exact ⟨rfl, rfl⟩
  · go_enter Try.func49, Try.ntmps49
    go_wp2
    go_ret
    exact ⟨rfl, rfl⟩
theorem info_int : (Try.prog.info? 3).map (fun i => (i.zero, i.size, i.bytes)) = some (some (.int .i64 0), 1, 8) := by kernel_rfl
theorem info_parts' {t : TypeId} {z : Option Value} {s b : Nat} (h : (Try.prog.info? t).map (fun i => (i.zero, i.size, i.bytes)) = some (z, s, b)) : ∃ i, Try.prog.info? t = some i ∧ i.zero = z ∧ i.size = s ∧ i.bytes = b := by
  cases hi : Try.prog.info? t with
  | none => rw [hi] at h; simp at h
  | some i => rw [hi] at h; simp at h; exact ⟨i, rfl, h.1, h.2.1, h.2.2⟩
def celN (l : List Nat) : List Value := l.map fun (b : Nat) => Value.int .i64 (b : Int)
theorem celN_get (l : List Nat) (k : Nat) (h : k < l.length) : (celN l)[k]? = some (.int .i64 (l[k] : Int)) := by simp [celN, h]
theorem celN_set (l : List Nat) (k b : Nat) : (celN l).set k (.int .i64 (b : Int)) = celN (l.set k b) := by simp [celN, List.map_set]
/-- 'make([]int, n)' -/
theorem make_ints (w : World) (n : Nat) (h : n ≤ 1000000) (kl kc : IntKind) : (Instr.makeSlice 98 (.int kl (n : Int)) (.int kc (n : Int))).run Try.prog w = .ok (.slice (some ⟨w.heap.size, 0, none⟩) n n) (w.alloc (.cells (celN (List.replicate n 0)).toArray 3)) := by
  obtain ⟨i0, hi, hz0, hz1, hz2⟩ := info_parts' info_int
  have hr := run_make (P := Try.prog) w 98 3 i0 (.int .i64 0) Try.underlying98 hi hz0 kl kc n n (by omega) (Int.le_refl _) (by rw [hz2]; omega) (by omega)
  rw [hr, hz1, Int.toNat_natCast, Nat.mul_one]
  have e : madeCells (Value.int .i64 0).cells n = (celN (List.replicate n 0)).toArray := by
    apply Array.ext'
    refine (toList_madeCells_one (.int .i64 0) n).trans ?_
    simp [celN]
  rw [e]
/-- the row of bits, from the last one on, as far as t -/
def rowT (W n t : Nat) : List Nat := (List.range W).map fun j => if W - t ≤ j then (n.testBit (W - 1 - j)).toNat else 0
theorem rowT_len (W n t : Nat) : (rowT W n t).length = W := by simp [rowT]
theorem rowT_zero (W n : Nat) : rowT W n 0 = List.replicate W 0 := by
  apply List.ext_getElem
  · simp [rowT]
  · intro i h1 h2
    rw [rowT_len] at h1
    simp [rowT]; omega
theorem rowT_all (W n : Nat) : rowT W n W = bitL W n := by
  unfold rowT bitL
  apply List.map_congr_left
  intro j _
  rw [if_pos (by omega)]
theorem rowT_set (W n t : Nat) (h : t < W) : (rowT W n t).set (W - 1 - t) (n.testBit t).toNat = rowT W n (t + 1) := by
  apply List.ext_getElem
  · simp [rowT]
  · intro i h1 h2
    rw [rowT_len] at h2
    rw [List.getElem_set]
    by_cases hi : W - 1 - t = i
    · rw [if_pos hi]
      simp only [rowT, List.getElem_map, List.getElem_range]
      rw [if_pos (by omega), show W - 1 - i = t by omega]
    · rw [if_neg hi]
      simp only [rowT, List.getElem_map, List.getElem_range]
      by_cases h3 : W - t ≤ i
      · rw [if_pos h3, if_pos (by omega)]
      · rw [if_neg h3, if_neg (by omega)]
theorem half_num (m : Nat) (hm : m < 2 ^ 128) : loN m / 2 + hiN m % 2 * 9223372036854775808 = loN (m / 2) ∧ hiN m / 2 = hiN (m / 2) := by unfold loN hiN; omega
def BitsIs (L : List Nat) (w : World) (e : Ending) (w' : World) : Prop := ∃ g, e = .returned (.slice (some ⟨g, 0, none⟩) L.length L.length) ∧ w.heap.size ≤ g ∧ RowAt w' g (celN L) 3 ∧ Below w.heap.size w w'
set_option maxHeartbeats 2000000 in
set_option maxRecDepth 20000 in
theorem rbits_any (six : Bool) (n : Nat) (w : World) (hn : n < 2 ^ 128) : Calls Try.prog 51 #[.bool six, adV n] w (BitsIs (bitL (wideN six) n) w) := by
  have cw := fun w => rwide_any six w
  have hWl := wideN_le six
  have hWg := wideN_ge six
  obtain ⟨W, hWd⟩ : ∃ W, W = wideN six := ⟨_, rfl⟩
  rw [← hWd] at cw hWl hWg ⊢
  clear hWd
  have hmk := fun w => make_ints w W (by omega) .i64 .i64
  unfold adV
  obtain ⟨X, hX⟩ : ∃ X, X = w.alloc (.cells #[.int .u64 (hiN n : Int), .int .u64 (loN n : Int)] 25) := ⟨_, rfl⟩
  have hB0 : Below w.heap.size w X := by rw [hX]; exact below_new (Below.refl _ _) _
  have r0 : RowAt X w.heap.size [.int .u64 (hiN n : Int), .int .u64 (loN n : Int)] 25 := by rw [hX]; exact RowAt.new _ _ _
  obtain ⟨Y, hY⟩ : ∃ Y, Y = X.alloc (.cells (celN (List.replicate W 0)).toArray 3) := ⟨_, rfl⟩
  obtain ⟨g, hg⟩ : ∃ g, g = X.heap.size := ⟨_, rfl⟩
  have hmk := hmk X
  have r1 : RowAt Y g (celN (rowT W n 0)) 3 := by rw [hY, hg, rowT_zero]; exact RowAt.new _ _ _
  have hBY : Below w.heap.size w Y := by rw [hY]; exact below_new hB0 _
  have hwg : w.heap.size ≤ g := by rw [hg]; exact hB0.size
  have r0Y : RowAt Y w.heap.size [.int .u64 (hiN n : Int), .int .u64 (loN n : Int)] 25 := by rw [hY]; exact r0.alloc _
  have hWi : (W : Int) ≤ 128 := by omega
  have hWi2 : (32 : Int) ≤ (W : Int) := by omega
  go_enter Try.func51, Try.ntmps51
  go_wp2_with fail
  go_at_call 49; refine (cw _).mono ?_; rintro e w2 ⟨rfl, rfl⟩
  rw [← hX]
  clear hX hB0 r0
  go_upto_region 2 with fail
  rw [← hY, ← hg]
  clear hmk hY hg cw
  obtain ⟨q0, q1, qf⟩ := cells2 r0Y
  go_region
  go_wp2_with fail
  clear q0 q1 qf r0Y hmk
  have HN : Hid (n < 2 ^ 128) := hn
  have HP : Hid (BitsIs (bitL W n) w = BitsIs (bitL W n) w) := rfl
  go_loopw [6, 7, 8] (fun lo hi i wr => ∃ (t : Nat) (x : Int), t ≤ W ∧ lo = .int .u64 (loN (n / 2 ^ t) : Int) ∧ hi = .int .u64 (hiN (n / 2 ^ t) : Int) ∧ i = .int .i64 x ∧ Hid (x = (W : Int) - 1 - (t : Int)) ∧ RowAt wr g (celN (rowT W n t)) 3 ∧ Below w.heap.size w wr) (fun _ _ i _ => (intOf i + 1).toNat)
  case atStart => exact ⟨0, (W : Int) - 1, by omega, by simp, by simp, rfl, (by show _ = _; omega), r1.drew, below_drew hBY⟩
  case round =>
    obtain ⟨t, x, ht, rfl, rfl, rfl, HX, hr, hb⟩ := hrel
    clear r1 hBY
    by_cases hlt : t < W
    · obtain ⟨i, hi⟩ : ∃ i : Nat, i = W - 1 - t := ⟨_, rfl⟩
      obtain rfl : x = (i : Int) := by have := HX.out; omega
      have hxi : (i : Int) < (W : Int) := by omega
      have d0 : decide ((0 : Int) ≤ (i : Int)) = true := decide_eq_true (by omega)
      have hcell : wr.cell? ⟨g, i, none⟩ = some (.int .i64 ((rowT W n t)[i]'(by rw [rowT_len]; omega) : Int)) := by rw [hr.cell, celN_get]
      have hfz : wr.frozen? ⟨g, i, none⟩ = false := hr.frozen i
      have hm := half_num (n / 2 ^ t) (Nat.lt_of_le_of_lt (Nat.div_le_self _ _) HN.out)
      rw [Nat.div_div_eq_div_mul, ← Nat.pow_succ] at hm
      have hlo := loN_lt (n / 2 ^ t)
      have hhi := hiN_lt (Nat.lt_of_le_of_lt (Nat.div_le_self n (2 ^ t)) HN.out)
      have hbit : loN (n / 2 ^ t) % 2 = (n.testBit t).toNat := by rw [Nat.toNat_testBit]; unfold loN; omega
      have hset := rowT_set W n t hlt
      rw [← hi, ← hbit] at hset
      have HS : Hid (∀ W' : World, RowAt W' g (celN (rowT W n t)) 3 → RowAt (W'.setCell ⟨g, i, none⟩ (.int .i64 ((loN (n / 2 ^ t) % 2 : Nat) : Int))) g (celN (rowT W n (t + 1))) 3) := fun W' h => by
        have := h.set1 i (.int .i64 ((loN (n / 2 ^ t) % 2 : Nat) : Int))
        rw [celN_set, hset] at this
        exact this
      have HH1 : Hid (loN (n / 2 ^ t) / 2 + hiN (n / 2 ^ t) % 2 * 9223372036854775808 = loN (n / 2 ^ (t + 1))) := hm.1
      have HH2 : Hid (hiN (n / 2 ^ t) / 2 = hiN (n / 2 ^ (t + 1))) := hm.2
      generalize (rowT W n t)[i]'(by rw [rowT_len]; omega) = old at hcell
      clear hm hset hbit
      generalize loN (n / 2 ^ t) = lo at *
      generalize hiN (n / 2 ^ t) = hh at *
      have hloi : (lo : Int) ≤ 18446744073709551615 := by omega
      have hhii : (hh : Int) ≤ 18446744073709551615 := by omega
      have HR : Hid (RowAt wr g (celN (rowT W n t)) 3) := hr
      have HI : Hid (i = W - 1 - t) := hi
      clear hlo hhi hr hi
      go_wp2_with fail
      go_roundw
      case rel =>
        refine ⟨t + 1, (i : Int) - 1, by omega, ?_, ?_, rfl, (by show _ = _; have := HI.out; omega), ?_, ?_⟩
        · rw [← HH1.out]; go_num
        · rw [← HH2.out]; go_num
        · exact HS.out _ HR.out
        · exact bset hb (by omega)
      case measure => simp [intOf]
    · obtain rfl : t = W := by omega
      obtain rfl : x = -1 := by have := HX.out; omega
      rw [rowT_all] at hr
      have HR : Hid (RowAt wr g (celN (bitL t n)) 3) := hr
      clear hr
      go_wp2_with fail
      go_ret
      exact ⟨g, by rw [bitL_len]; rfl, hwg, HR.out, hb⟩
end Go.Proofs.Ytaaedgfacnaggaa.Addr
namespace Go.Proofs.Ytaaedgfacnaggaa.Addr
open Go.RowKit

theorem right_four (n : Nat) : rightB false n = (decide (hiN n = 0) && decide (loN n < 4294967296)) := by
  unfold rightB hiN loN
  rw [← Bool.decide_and]
  exact decide_eq_decide.2 (by show n < 2 ^ 32 ↔ _; omega)
theorem right_six (n : Nat) (h : n < 2 ^ 128) : rightB true n = true := decide_eq_true h
set_option maxHeartbeats 1000000 in
theorem rright_any (six : Bool) (n : Nat) (w : World) (hn : n < 2 ^ 128) : Calls Try.prog 50 #[.bool six, adV n] w fun e w' => e = .returned (.bool (rightB six n)) ∧ Below w.heap.size w w' := by
  obtain ⟨X, hX⟩ : ∃ X, X = w.alloc (.cells #[.int .u64 (hiN n : Int), .int .u64 (loN n : Int)] 25) := ⟨_, rfl⟩
  have hB0 : Below w.heap.size w X := by rw [hX]; exact below_new (Below.refl _ _) _
  have r0 : RowAt X w.heap.size [.int .u64 (hiN n : Int), .int .u64 (loN n : Int)] 25 := by rw [hX]; exact RowAt.new _ _ _
  cases six
  · rw [right_four]
    unfold adV
    have hlt := loN_lt n
    generalize hiN n = h at *
    generalize loN n = l at *
    have hli : (l : Int) ≤ 18446744073709551615 := by omega
    obtain ⟨q0, q1, qf⟩ := cells2 r0
    clear hn r0 hlt
    by_cases h0 : h = 0
    · have h0' : ((h : Int) == 0) = true := by simpa using h0
      have HV : Hid ((decide (h = 0) && decide (l < 4294967296)) = decide ((l : Int) < 4294967296)) := by
        show _ = _
        rw [decide_eq_true h0, Bool.true_and]
        exact decide_eq_decide.2 (by omega)
      generalize (decide (h = 0) && decide (l < 4294967296)) = R at HV ⊢
      clear h0
      go_enter Try.func50, Try.ntmps50
      go_upto_region 1 with fail
      rw [← hX]
      clear hX
      go_wp2_with fail
      go_ret
      exact ⟨by rw [HV.out]; rfl, hB0⟩
    · have HV : Hid ((decide (h = 0) && decide (l < 4294967296)) = false) := by show _ = _; rw [decide_eq_false h0]; rfl
      generalize (decide (h = 0) && decide (l < 4294967296)) = R at HV ⊢
      have h0' : ((h : Int) == 0) = false := by simpa using h0
      go_enter Try.func50, Try.ntmps50
      go_upto_region 1 with fail
      rw [← hX]
      clear hX
      go_wp2_with fail
      go_ret
      exact ⟨by rw [HV.out]; rfl, hB0⟩
  · rw [right_six n hn]
    unfold adV
    clear hn r0
    go_enter Try.func50, Try.ntmps50
    go_upto_region 1 with fail
    rw [← hX]
    clear hX
    go_wp2_with fail
    go_ret
    exact ⟨rfl, hB0⟩
set_option maxHeartbeats 2000000 in
theorem rcmp_any (n m : Nat) (w : World) (hn : n < 2 ^ 128) (hm : m < 2 ^ 128) : Calls Try.prog 48 #[adV n, adV m] w fun e w' => e = .returned (.int .i64 (cmpN n m)) ∧ Below w.heap.size w w' := by
  have heq := fun w => ad_eql n m w
  have hgd := ad_guard
  obtain ⟨X, hX⟩ : ∃ X, X = (w.alloc (.cells #[.int .u64 (hiN n : Int), .int .u64 (loN n : Int)] 25)).alloc (.cells #[.int .u64 (hiN m : Int), .int .u64 (loN m : Int)] 25) := ⟨_, rfl⟩
  have hB0 : Below w.heap.size w X := by rw [hX]; exact below_new (below_new (Below.refl _ _) _) _
  have r0 : RowAt X w.heap.size [.int .u64 (hiN n : Int), .int .u64 (loN n : Int)] 25 := by rw [hX]; exact (RowAt.new _ _ _).alloc _
  have r1 : RowAt X (w.heap.size + 1) [.int .u64 (hiN m : Int), .int .u64 (loN m : Int)] 25 := by rw [hX, ← World.size_alloc w (.cells #[.int .u64 (hiN n : Int), .int .u64 (loN n : Int)] 25)]; exact RowAt.new _ _ _
  have e1 := hilo n
  have e2 := hilo m
  have l1 := loN_lt n
  have l2 := loN_lt m
  have u1 := hiN_lt hn
  have u2 := hiN_lt hm
  unfold adV at *
  generalize hiN n = a at *
  generalize loN n = c at *
  generalize hiN m = b at *
  generalize loN m = d at *
  have ai : (a : Int) ≤ 18446744073709551615 := by omega
  have bi : (b : Int) ≤ 18446744073709551615 := by omega
  have ci : (c : Int) ≤ 18446744073709551615 := by omega
  have di : (d : Int) ≤ 18446744073709551615 := by omega
  obtain ⟨q0, q1, qf⟩ := cells2 r0
  obtain ⟨p0, p1, pf⟩ := cells2 r1
  have HL : Hid (n < m ↔ a < b ∨ (a = b ∧ c < d)) := by show _ ↔ _; omega
  have HE : Hid (n = m ↔ (a = b ∧ c = d)) := by show _ ↔ _; omega
  have HC : Hid ((n < m → cmpN n m = -1) ∧ (n = m → cmpN n m = 0) ∧ (m < n → cmpN n m = 1)) := ⟨cmp_lt, fun h => by rw [h]; exact cmp_eq _, cmp_gt⟩
  clear hn hm e1 e2 l1 l2 u1 u2 r0 r1
  generalize hR : cmpN n m = R at *
  clear hR
  by_cases h1 : a < b
  · have d1 : decide ((a : Int) < (b : Int)) = true := decide_eq_true (by omega)
    have d1' : decide (a < b) = true := decide_eq_true h1
    have HV : Hid (R = -1) := HC.out.1 (HL.out.2 (.inl h1))
    rw [decide_eq_false (fun e => by have := HE.out.1 e; omega)] at heq
    clear HL HE HC
    (try clear he)
    go_enter Try.func48, Try.ntmps48
    go_upto_region 1 with fail
    rw [← hX]
    clear hX
    go_wp2_with fail
    go_ret
    exact ⟨by rw [HV.out]; rfl, hB0⟩
  have d1 : decide ((a : Int) < (b : Int)) = false := decide_eq_false (by omega)
  have d1' : decide (a < b) = false := decide_eq_false h1
  by_cases h2 : a = b
  · subst h2
    by_cases h3 : c < d
    · have d3 : decide ((c : Int) < (d : Int)) = true := decide_eq_true (by omega)
      have d3' : decide (c < d) = true := decide_eq_true h3
      have HV : Hid (R = -1) := HC.out.1 (HL.out.2 (.inr ⟨rfl, h3⟩))
      rw [decide_eq_false (fun e => by have := HE.out.1 e; omega)] at heq
      clear HL HE HC
      (try clear he)
      go_enter Try.func48, Try.ntmps48
      go_upto_region 1 with fail
      rw [← hX]
      clear hX
      go_wp2_with fail
      go_ret
      exact ⟨by rw [HV.out]; rfl, hB0⟩
    · have d3 : decide ((c : Int) < (d : Int)) = false := decide_eq_false (by omega)
      have d3' : decide (c < d) = false := decide_eq_false h3
      by_cases h4 : c = d
      · have he := HE.out.2 ⟨rfl, h4⟩
        clear h4
        have HV : Hid (R = 0) := HC.out.2.1 (he)
        rw [decide_eq_true he] at heq
        clear HL HE HC
        (try clear he)
        go_enter Try.func48, Try.ntmps48
        go_upto_region 1 with fail
        rw [← hX]
        clear hX
        go_wp2_with fail
        go_ret
        exact ⟨by rw [HV.out]; rfl, hB0⟩
      · have he : ¬ n = m := fun e => h4 (HE.out.1 e).2
        have hgt : m < n := by have := HL.out; omega
        have HV : Hid (R = 1) := HC.out.2.2 (hgt)
        rw [decide_eq_false he] at heq
        clear HL HE HC
        (try clear he)
        go_enter Try.func48, Try.ntmps48
        go_upto_region 1 with fail
        rw [← hX]
        clear hX
        go_wp2_with fail
        go_ret
        exact ⟨by rw [HV.out]; rfl, hB0⟩
  · have d2 : ((a : Int) == (b : Int)) = false := by rw [beq_eq_false_iff_ne]; omega
    have d2' : (a == b) = false := by rw [beq_eq_false_iff_ne]; exact h2
    have he : ¬ n = m := fun e => h2 (HE.out.1 e).1
    have hgt : m < n := by have := HL.out; omega
    have HV : Hid (R = 1) := HC.out.2.2 (hgt)
    rw [decide_eq_false he] at heq
    clear HL HE HC
    (try clear he)
    go_enter Try.func48, Try.ntmps48
    go_upto_region 1 with fail
    rw [← hX]
    clear hX
    go_wp2_with fail
    go_ret
    exact ⟨by rw [HV.out]; rfl, hB0⟩
end Go.Proofs.Ytaaedgfacnaggaa.Addr
