/- The document's Slim. -/
import Derived.Test.YtaaedgfacnaggaaTs20
import Derived.Test.YtaaedgfacnaggaaTs14
import Derived.Test.YtaaedgfacnaggaaTs13
import Derived.Test.YtaaedgfacnaggaaTs07
set_option linter.unusedVariables false
namespace Go.Proofs.Ytaaedgfacnaggaa.Tr
open Go.RowKit Go.Shelf
open Go.Proofs.Ytaaedgfacnaggaa.Msg (Ac ac_inG)
open Go.Proofs.Ytaaedgfacnaggaa.Lk (HasRow hasRow_own)
open Go.Proofs.Ytaaedgfacnaggaa.Addr (okP hiN loN RowAt below2 below_drew below_new RowAt.cell RowAt.frozen RowAt.below RowAt.new RowAt.alloc)
attribute [-go_sem] Builtin.append_
theorem ac_neq (a b : Ac) (w : World) : (binOp .neq 35 (.agg #[.int .u8 (a.k : Int), .int .i64 a.i]) (.agg #[.int .u8 (b.k : Int), .int .i64 b.i])).run Try.prog w = .ok (.bool (!eqA a b)) w := by
  have h := ac_inG a.k b.k a.i b.i w 9998
  rw [run_neq_struct, h]
  rfl
theorem field_act (t0 t1 t2 t3 t4 t5 : Value) (w : World) : (Instr.field 37 (.agg #[t0, t1, t2, t3, t4, t5]) 1).run Try.prog w = .ok (.agg #[t4, t5]) w := by
  have u := Try.underlying37
  have z := Try.sizeOf32
  have z2 := Try.sizeOf35
  have g := Try.isAgg35
  simp only [Instr.field]
  go_simp
  rfl
set_option maxHeartbeats 8000000 in
set_option maxRecDepth 20000 in
theorem slim_any (l : List Rt) (v : Value) (w : World) (hl : HasRts w v l) (hf : ∀ x ∈ l, FitR x) :
    Calls Try.prog 4 #[v] w fun e w' => ∃ u, e = .returned (.tuple #[u, .int .i64 (slimT l).2]) ∧ HasRts w' u (slimT l).1 ∧ Below w.heap.size w w' := by
  obtain ⟨o, c, rfl, hc1, hc2⟩ := Lk.HasRow.slice hl
  have cc := fun W (hb : Below w.heap.size w W) => check_any l _ W (hl.keep hb) hf
  have hck : checkT l = if okT l then 0 else 2 := rfl
  rw [hck] at cc
  cases hok : okT l
  · rw [slim_not hok]
    rw [hok] at cc
    simp only [Bool.false_eq_true, if_false] at cc
    go_enter Try.func4, Try.ntmps4
    go_wp2_with fail
    go_at_call 9; refine (cc _ (Below.refl _ _)).mono ?_; rintro e w1 ⟨rfl, hb1⟩
    go_wp2_with fail
    go_ret2
    exact ⟨_, rfl, Lk.hasRow_nil _ 6, hb1⟩
  rw [slim_ok hok]
  rw [hok] at cc
  simp only [if_true] at cc
  obtain ⟨k1, k2, k3⟩ := (okT_iff l).1 hok
  have cg := fun W (hb : Below w.heap.size w W) => grown_any l _ W (hl.keep hb) k3 (fun x hx => by have := k2 x hx; unfold okR at this; rw [Bool.and_eq_true] at this; exact this.1) k1
  have HU : Hid (Up l) := k3
  have HO : Hid (∀ x ∈ l, okP x.pf = true) := fun x hx => by have := k2 x hx; unfold okR at this; rw [Bool.and_eq_true] at this; exact this.1
  have HFit : Hid (∀ x ∈ l, FitR x) := hf
  have HR : Hid (∀ wr : World, Below w.heap.size w wr → HasRts wr (.slice o l.length c) l) := fun wr hb => hl.keep hb
  obtain ⟨n, hn⟩ : ∃ n, n = l.length := ⟨_, rfl⟩
  have HN : Hid (n = l.length) := hn
  rw [← hn] at HR hc1 k1 cc cg ⊢
  have hni : (n : Int) ≤ 256 := by omega
  have HLe : Hid (∀ k, ((l.take k).filter (slimR l)).length ≤ 256) := fun k => Nat.le_trans (filter_leR _ l k) (by rw [← hn]; exact k1)
  clear hl hf hn hck hok k2 k3
  go_enter Try.func4, Try.ntmps4
  go_wp2_with fail
  go_at_call 9; refine (cc _ (Below.refl _ _)).mono ?_; rintro e w1 ⟨rfl, hb1⟩
  clear cc
  go_wp2_with fail
  go_at_call 10; refine (cg _ hb1).mono ?_; rintro e X ⟨g, u0, u1, K0, K1, rfl, hT, hfil, hln, hb2⟩
  have hB := below2 hb1 hb2
  clear cg hb1 hb2
  have H0 : Hid (Own1 X X (.slice none 0 0) ((l.take 0).filter (slimR l))) := ⟨World.ownsRow_nil _ _ _ _, Below.refl _ _⟩
  have HE : Hid (∀ u W, Own1 X W u (l.filter (slimR l)) → HasRts W u (l.filter (slimR l))) := fun u W h => hasRow_own h.ou
  have HUP : Hid (∀ (k : Nat) (h : k < l.length) (W : World), Below X.heap.size X W → Calls Try.prog 11 #[.pointer (some ⟨g, 0, none⟩), .agg #[.bool l[k].pf.six, .int .u64 (hiN l[k].pf.n : Int), .int .u64 (loN l[k].pf.n : Int), .int .i64 l[k].pf.len]] W fun e w' => e = .returned (rtA (lastR (l.filter (upQ l[k])))) ∧ Below W.heap.size W w') := fun k h W hb => by
    have hT2 := hT.below hb
    rw [← above_eq HU.out (List.getElem_mem h) (HO.out _ (List.getElem_mem h))]
    exact upper_any l l[k].pf W hT2.row hT2.t0 hT2.t1 (fun b hb => hb.2) hfil hln (HFit.out _ (List.getElem_mem h)).1.2
  clear hT hfil hln
  go_wp2_with fail
  go_loopw [6, 18] (fun u q wr => ∃ k : Nat, k ≤ n ∧ q = .int .i64 k ∧ Hid (Own1 X wr u ((l.take k).filter (slimR l)))) (fun _ q _ => n - (Go.RowKit.intOf q).toNat)
  case atStart => exact ⟨0, by omega, rfl, H0⟩
  case round =>
    obtain ⟨k, hk, rfl, HI⟩ := hrel
    have hI := HI.out
    by_cases hlt : k < n
    · have hkz : k < l.length := by rw [← HN.out]; exact hlt
      obtain ⟨g1, i1, rfl, hg1, ax⟩ := HasRts.cell (HR.out _ (below2 hB hI.bl)) k hkz
      obtain ⟨a0, a1, a2, a3, a4, a5⟩ := six_at ax
      clear ax
      have HA : Hid ((l.take (k + 1)).filter (slimR l) = (l.take k).filter (slimR l) ++ (if slimR l l[k] then [l[k]] else [])) := filter_snocR _ l k hkz
      have hle := HLe.out k
      have cu := HUP.out k hkz
      obtain ⟨R, hR⟩ : ∃ R : Rt, R = lastR (l.filter (upQ l[k])) := ⟨_, rfl⟩
      have hs : slimR l l[k] = !eqA R.act l[k].act := by unfold slimR actL; rw [hR]
      rw [hs] at HA
      rw [← hR] at cu
      clear hs hR
      obtain ⟨x, hx⟩ : ∃ x : Rt, x = l[k] := ⟨_, rfl⟩
      rw [← hx] at HA cu a0 a1 a2 a3 a4 a5
      replace HA : Hid ((l.take (k + 1)).filter (slimR l) = (l.take k).filter (slimR l) ++ (if !eqA R.act x.act then [x] else [])) := HA
      have hne := fun W => ac_neq R.act x.act W
      clear hx
      have hki : (k : Int) < (n : Int) := by omega
      have HLT : Hid (∀ W : World, HasRts (W.alloc (.cells #[.bool x.pf.six, .int .u64 (hiN x.pf.n : Int), .int .u64 (loN x.pf.n : Int), .int .i64 x.pf.len, .int .u8 (x.act.k : Int), .int .i64 x.act.i] 37)) (.slice (some ⟨W.heap.size, 0, none⟩) 1 1) [x]) := fun W => lit_rt W x
      unfold rtA at cu
      generalize eqA R.act x.act = E at hne HA
      generalize R.pf.six = t0 at *
      generalize (hiN R.pf.n : Int) = t1 at *
      generalize (loN R.pf.n : Int) = t2 at *
      generalize R.pf.len = t3 at *
      generalize (R.act.k : Int) = t4 at *
      generalize R.act.i = t5 at *
      generalize x.pf.six = s0 at *
      generalize (hiN x.pf.n : Int) = s1 at *
      generalize (loN x.pf.n : Int) = s2 at *
      generalize x.pf.len = s3 at *
      generalize (x.act.k : Int) = s4 at *
      generalize x.act.i = s5 at *
      obtain ⟨Y, hY⟩ : ∃ Y, Y = wr.alloc (.cells #[.bool s0, .int .u64 s1, .int .u64 s2, .int .i64 s3, .int .u8 s4, .int .i64 s5] 37) := ⟨_, rfl⟩
      have hbY : Below wr.heap.size wr Y := by rw [hY]; exact below_new (Below.refl _ _) _
      have rY : RowAt Y wr.heap.size [.bool s0, .int .u64 s1, .int .u64 s2, .int .i64 s3, .int .u8 s4, .int .i64 s5] 37 := by rw [hY]; exact RowAt.new _ _ _
      go_upto_region 9 with fail
      rw [← hY]
      clear hY a0 a1 a2 a3 a4 a5 hg1
      replace hI := hI.below hbY
      obtain ⟨gy, hgy⟩ : ∃ gy, gy = wr.heap.size := ⟨_, rfl⟩
      rw [← hgy] at rY ⊢
      clear hgy hbY HI
      have HIY : Hid (Own1 X Y u6 ((l.take k).filter (slimR l))) := hI
      have HbX : Hid (Below X.heap.size X Y) := hI.bl
      clear hI
      have HSK : Hid (∀ W : World, Below Y.heap.size Y W → W.cell? ⟨gy, 0, none⟩ = some (.bool s0) ∧ W.cell? ⟨gy, 1, none⟩ = some (.int .u64 s1) ∧ W.cell? ⟨gy, 2, none⟩ = some (.int .u64 s2) ∧ W.cell? ⟨gy, 3, none⟩ = some (.int .i64 s3) ∧ W.cell? ⟨gy, 4, none⟩ = some (.int .u8 s4) ∧ W.cell? ⟨gy, 5, none⟩ = some (.int .i64 s5)) := fun W hb => ⟨(rY.below hb).cell 0, (rY.below hb).cell 1, (rY.below hb).cell 2, (rY.below hb).cell 3, (rY.below hb).cell 4, (rY.below hb).cell 5⟩
      have hfd := field_act
      have hbA : Below Y.heap.size Y Y := Below.refl _ _
      go_region_held3 (fun W => W.cell? ⟨gy, 0, none⟩ = some (.bool s0) ∧ W.cell? ⟨gy, 1, none⟩ = some (.int .u64 s1) ∧ W.cell? ⟨gy, 2, none⟩ = some (.int .u64 s2) ∧ W.cell? ⟨gy, 3, none⟩ = some (.int .i64 s3) ∧ W.cell? ⟨gy, 4, none⟩ = some (.int .u8 s4) ∧ W.cell? ⟨gy, 5, none⟩ = some (.int .i64 s5))
        (first
          | (refine HSK.out _ ?_
             repeat' (first | with_reducible exact hbA | with_reducible apply below_drew | with_reducible apply below_new)))
        (first
          | (go_at_call 11
             refine (cu _ (below2 HbX.out (by repeat' (first | with_reducible exact hbA | with_reducible apply below_drew)))).mono ?_
             rintro e w3 ⟨rfl, hb3⟩
             have hbN : Below Y.heap.size Y w3 := below2 (by repeat' (first | with_reducible exact hbA | with_reducible apply below_drew)) hb3
             clear hbA
             have hbA := hbN
             clear hbN))
      have hI3 := HIY.out.below hbA
      obtain ⟨y0, y1, y2, y3, y4, y5⟩ := HSK.out _ hbA
      have yf : ∀ k, w3.frozen? ⟨gy, k, none⟩ = false := (rY.below hbA).frozen
      clear HSK HIY HbX hb3 cu hne hfd
      cases E
      · obtain ⟨v', w4, hrun, hO⟩ := (hI3.below (below_new (Below.refl _ w3) (.cells #[.bool s0, .int .u64 s1, .int .u64 s2, .int .i64 s3, .int .u8 s4, .int .i64 s5] 37))).app (HLT.out w3) (by simp only [List.length_cons, List.length_nil]; omega)
        have HO : Hid (Own1 X w4 v' ((l.take (k + 1)).filter (slimR l))) := by
          show Own1 _ _ _ _
          rw [HA.out]
          exact hO
        clear hO hI3 HA rY HLT
        go_wp2_with fail
        go_roundw
        case rel => exact ⟨k + 1, by omega, by go_num, HO⟩
        case measure => simp [Go.RowKit.intOf]; omega
      · have HO : Hid (Own1 X w3 u6 ((l.take (k + 1)).filter (slimR l))) := by
          show Own1 _ _ _ _
          rw [HA.out]
          simpa using hI3
        clear hI3 HA rY HLT
        go_wp2_with fail
        go_roundw
        case rel => exact ⟨k + 1, by omega, by go_num, HO⟩
        case measure => simp [Go.RowKit.intOf]; omega
    · have hkf : decide ((k : Int) < (n : Int)) = false := decide_eq_false (by omega)
      rw [List.take_of_length_le (by rw [← HN.out]; omega)] at hI
      have hh := HE.out _ _ hI
      have hbl := below2 hB hI.bl
      clear HI hI
      go_wp2_with fail
      go_ret2
      exact ⟨_, rfl, hh, hbl⟩
end Go.Proofs.Ytaaedgfacnaggaa.Tr
namespace Go.Proofs.Ytaaedgfacnaggaa.Addr
open Go.RowKit

theorem covers_swap (p q : Pf) : coversB p q = (okP q && (hasB p q.six q.n && decide (p.len ≤ q.len))) := by
  unfold coversB
  cases okP q <;> cases hasB p q.six q.n <;> simp
set_option maxHeartbeats 2000000 in
theorem rcovers_any (p q : Pf) (w : World) (hl : -9223372036854775808 ≤ p.len ∧ p.len ≤ 9223372036854775807) (hn : p.n < 2 ^ 128) (hl2 : -9223372036854775808 ≤ q.len ∧ q.len ≤ 9223372036854775807) (hn2 : q.n < 2 ^ 128) : Calls Try.prog 13 #[pfV p, pfV q] w fun e w' => e = .returned (.bool (coversB p q)) ∧ Below w.heap.size w w' := by
  have cc := fun w => rcheck_any q w hl2 hn2
  have ch := fun w => rhas_any p q.six q.n w hl hn hn2
  obtain ⟨X, hX⟩ : ∃ X, X = (w.alloc (.cells #[.bool p.six, .int .u64 (hiN p.n : Int), .int .u64 (loN p.n : Int), .int .i64 p.len] 32)).alloc (.cells #[.bool q.six, .int .u64 (hiN q.n : Int), .int .u64 (loN q.n : Int), .int .i64 q.len] 32) := ⟨_, rfl⟩
  have hB0 : Below w.heap.size w X := by rw [hX]; exact below_new (below_new (Below.refl _ _) _) _
  have r0 : RowAt X w.heap.size [.bool p.six, .int .u64 (hiN p.n : Int), .int .u64 (loN p.n : Int), .int .i64 p.len] 32 := by rw [hX]; exact (RowAt.new _ _ _).alloc _
  have r1 : RowAt X (w.heap.size + 1) [.bool q.six, .int .u64 (hiN q.n : Int), .int .u64 (loN q.n : Int), .int .i64 q.len] 32 := by rw [hX, ← World.size_alloc w (.cells #[.bool p.six, .int .u64 (hiN p.n : Int), .int .u64 (loN p.n : Int), .int .i64 p.len] 32)]; exact RowAt.new _ _ _
  have HH : Hid (coversB p q = (okP q && (hasB p q.six q.n && decide (p.len ≤ q.len)))) := covers_swap p q
  generalize coversB p q = R at *
  generalize hasB p q.six q.n = HB at *
  cases hok : okP q
  · rw [checkP_bad hok] at cc
    have HV : Hid (R = false) := by show _ = _; rw [HH.out, hok]; rfl
    clear HH hok ch hl hl2 hn hn2
    unfold pfV at *
    (try unfold adV at *)
    generalize hiN p.n = h at *
    generalize loN p.n = l at *
    generalize hiN q.n = qh at *
    generalize loN q.n = ql at *
    generalize p.six = sx at *
    generalize p.len = len at *
    generalize q.six = qs at *
    generalize q.len = qn at *
    go_enter Try.func13, Try.ntmps13
    go_wp2_with fail
    go_at_call 27; refine (cc _).mono ?_; rintro e w2 ⟨rfl, hb2⟩
    rw [← hX] at hb2
    have hW := below2 hB0 hb2
    clear hX cc hB0 r0 r1 hb2
    go_wp2_with fail
    go_ret
    exact ⟨by rw [HV.out]; rfl, hW⟩
  rw [checkP_ok hok] at cc
  rw [hok] at HH
  clear hok
  cases HB with
  | false =>
    have HV : Hid (R = false) := by show _ = _; rw [HH.out]; rfl
    clear HH hl hl2 hn hn2
    unfold pfV at *
    (try unfold adV at *)
    generalize hiN p.n = h at *
    generalize loN p.n = l at *
    generalize hiN q.n = qh at *
    generalize loN q.n = ql at *
    generalize p.six = sx at *
    generalize p.len = len at *
    generalize q.six = qs at *
    generalize q.len = qn at *
    go_enter Try.func13, Try.ntmps13
    go_wp2_with fail
    go_at_call 27; refine (cc _).mono ?_; rintro e w2 ⟨rfl, hb2⟩
    rw [← hX] at hb2
    have hW := below2 hB0 hb2
    have r0 := r0.below hb2
    have r1 := r1.below hb2
    obtain ⟨q0, q1, q2, q3, qf⟩ := cells4 r0
    obtain ⟨p0, p1, p2, p3, pf⟩ := cells4 r1
    clear hX cc hB0 hb2
    go_wp2_with fail
    go_at_call 28; refine (ch _).mono ?_; rintro e w3 ⟨rfl, hb3⟩
    have hW := below2 hW hb3
    clear q0 q1 q2 q3 qf p0 p1 p2 p3 pf ch
    obtain ⟨q0, q1, q2, q3, qf⟩ := cells4 (r0.below hb3)
    obtain ⟨p0, p1, p2, p3, pf⟩ := cells4 (r1.below hb3)
    clear r0 r1 hb3
    go_wp2_with fail
    go_ret
    exact ⟨by rw [HV.out]; rfl, hW⟩
  | true =>
    have HV : Hid (R = decide (p.len ≤ q.len)) := by show _ = _; rw [HH.out]; simp
    clear HH hl hl2 hn hn2
    unfold pfV at *
    (try unfold adV at *)
    generalize hiN p.n = h at *
    generalize loN p.n = l at *
    generalize hiN q.n = qh at *
    generalize loN q.n = ql at *
    generalize p.six = sx at *
    generalize p.len = len at *
    generalize q.six = qs at *
    generalize q.len = qn at *
    go_enter Try.func13, Try.ntmps13
    go_wp2_with fail
    go_at_call 27; refine (cc _).mono ?_; rintro e w2 ⟨rfl, hb2⟩
    rw [← hX] at hb2
    have hW := below2 hB0 hb2
    have r0 := r0.below hb2
    have r1 := r1.below hb2
    obtain ⟨q0, q1, q2, q3, qf⟩ := cells4 r0
    obtain ⟨p0, p1, p2, p3, pf⟩ := cells4 r1
    clear hX cc hB0 hb2
    go_wp2_with fail
    go_at_call 28; refine (ch _).mono ?_; rintro e w3 ⟨rfl, hb3⟩
    have hW := below2 hW hb3
    clear q0 q1 q2 q3 qf p0 p1 p2 p3 pf ch
    obtain ⟨q0, q1, q2, q3, qf⟩ := cells4 (r0.below hb3)
    obtain ⟨p0, p1, p2, p3, pf⟩ := cells4 (r1.below hb3)
    clear r0 r1 hb3
    go_wp2_with fail
    go_ret
    exact ⟨by rw [HV.out]; rfl, hW⟩
end Go.Proofs.Ytaaedgfacnaggaa.Addr
namespace Go.Proofs.Ytaaedgfacnaggaa.Tr
open Go.RowKit Go.Shelf
open Go.Proofs.Ytaaedgfacnaggaa.Msg (eqP pf_neq)
open Go.Proofs.Ytaaedgfacnaggaa.Lk (HasRow hasRow_own)
open Go.Proofs.Ytaaedgfacnaggaa.Addr (coversB hiN loN RowAt below2 below_new RowAt.lt RowAt.cell RowAt.below RowAt.new RowAt.alloc)
attribute [-go_sem] Builtin.append_
def upF (r : Rt) (m : List Rt) : Rt := m.foldl (stepU r) startR
set_option maxHeartbeats 16000000 in
set_option maxRecDepth 20000 in
theorem rslim_any (l : List Rt) (v : Value) (w : World) (hl : HasRts w v l) (hf : ∀ x ∈ l, FitR x) :
    Calls Try.prog 5 #[v] w fun e w' => ∃ u, e = .returned (.tuple #[u, .int .i64 (slimT l).2]) ∧ HasRts w' u (slimT l).1 ∧ Below w.heap.size w w' := by
  obtain ⟨o, c, rfl, hc1, hc2⟩ := Lk.HasRow.slice hl
  have cc := fun W (hb : Below w.heap.size w W) => rcheck_any l _ W (hl.keep hb) hf
  have hck : checkT l = if okT l then 0 else 2 := rfl
  rw [hck] at cc
  cases hok : okT l
  · rw [slim_not hok]
    rw [hok] at cc
    simp only [Bool.false_eq_true, if_false] at cc
    go_enter Try.func5, Try.ntmps5
    go_wp2_with fail
    go_at_call 12; refine (cc _ (Below.refl _ _)).mono ?_; rintro e w1 ⟨rfl, hb1⟩
    go_wp2_with fail
    go_ret2
    exact ⟨_, rfl, Lk.hasRow_nil _ 6, hb1⟩
  rw [slim_ok hok]
  rw [hok] at cc
  simp only [if_true] at cc
  obtain ⟨k1, k2, k3⟩ := (okT_iff l).1 hok
  have hFE : l.filter (slimR l) = l.filter (rkeep l) := List.filter_congr (fun x hx => (rkeep_eq k3 (by have := k2 x hx; unfold okR at this; rw [Bool.and_eq_true] at this; exact this.2)).symm)
  rw [hFE]
  have HCV : Hid (∀ x ∈ l, ∀ r ∈ l, ∀ W, Calls Try.prog 13 #[.agg #[.bool x.pf.six, .int .u64 (hiN x.pf.n : Int), .int .u64 (loN x.pf.n : Int), .int .i64 x.pf.len], .agg #[.bool r.pf.six, .int .u64 (hiN r.pf.n : Int), .int .u64 (loN r.pf.n : Int), .int .i64 r.pf.len]] W fun e w' => e = .returned (.bool (coversB x.pf r.pf)) ∧ Below W.heap.size W w') := fun x hx r hr W => Addr.rcovers_any x.pf r.pf W (hf x hx).1.1 (hf x hx).1.2 (hf r hr).1.1 (hf r hr).1.2
  have HR : Hid (∀ wr : World, Below w.heap.size w wr → HasRts wr (.slice o l.length c) l) := fun wr hb => hl.keep hb
  obtain ⟨n, hn⟩ : ∃ n, n = l.length := ⟨_, rfl⟩
  have HN : Hid (n = l.length) := hn
  rw [← hn] at HR hc1 k1 cc ⊢
  have hni : (n : Int) ≤ 256 := by omega
  have HLe : Hid (∀ k, ((l.take k).filter (rkeep l)).length ≤ 256) := fun k => Nat.le_trans (filter_leR _ l k) (by rw [← hn]; exact k1)
  clear hl hf hn hck hok k2 k3 hFE
  go_enter Try.func5, Try.ntmps5
  go_wp2_with fail
  go_at_call 12; refine (cc _ (Below.refl _ _)).mono ?_; rintro e X ⟨rfl, hB⟩
  clear cc
  have H0 : Hid (Own1 X X (.slice none 0 0) ((l.take 0).filter (rkeep l))) := ⟨World.ownsRow_nil _ _ _ _, Below.refl _ _⟩
  have HE : Hid (∀ u W, Own1 X W u (l.filter (rkeep l)) → HasRts W u (l.filter (rkeep l))) := fun u W h => hasRow_own h.ou
  go_wp2_with fail
  go_loopw [4, 15] (fun u q wr => ∃ k : Nat, k ≤ n ∧ q = .int .i64 k ∧ Hid (Own1 X wr u ((l.take k).filter (rkeep l)))) (fun _ q _ => n - (Go.RowKit.intOf q).toNat)
  case atStart => exact ⟨0, by omega, rfl, H0⟩
  case round =>
    obtain ⟨k, hk, rfl, HI⟩ := hrel
    have hI := HI.out
    by_cases hlt : k < n
    · have hkz : k < l.length := by rw [← HN.out]; exact hlt
      obtain ⟨g1, i1, rfl, hg1, ax⟩ := HasRts.cell (HR.out _ (below2 hB hI.bl)) k hkz
      obtain ⟨a0, a1, a2, a3, a4, a5⟩ := six_at ax
      clear ax
      have HA : Hid ((l.take (k + 1)).filter (rkeep l) = (l.take k).filter (rkeep l) ++ (if rkeep l l[k] then [l[k]] else [])) := filter_snocR _ l k hkz
      have hle := HLe.out k
      obtain ⟨r, hr⟩ : ∃ r : Rt, r = l[k] := ⟨_, rfl⟩
      have hrm : r ∈ l := by rw [hr]; exact List.getElem_mem hkz
      rw [← hr] at HA a0 a1 a2 a3 a4 a5
      clear hr
      have HCr : Hid (∀ x ∈ l, ∀ W, Calls Try.prog 13 #[.agg #[.bool x.pf.six, .int .u64 (hiN x.pf.n : Int), .int .u64 (loN x.pf.n : Int), .int .i64 x.pf.len], .agg #[.bool r.pf.six, .int .u64 (hiN r.pf.n : Int), .int .u64 (loN r.pf.n : Int), .int .i64 r.pf.len]] W fun e w' => e = .returned (.bool (coversB x.pf r.pf)) ∧ Below W.heap.size W w') := fun x hx W => HCV.out x hx r hrm W
      have HNr : Hid (∀ (x : Rt) (W : World), (binOp .neq 32 (.agg #[.bool x.pf.six, .int .u64 (hiN x.pf.n : Int), .int .u64 (loN x.pf.n : Int), .int .i64 x.pf.len]) (.agg #[.bool r.pf.six, .int .u64 (hiN r.pf.n : Int), .int .u64 (loN r.pf.n : Int), .int .i64 r.pf.len])).run Try.prog W = .ok (.bool (!eqP x.pf r.pf)) W) := fun x W => pf_neq x.pf r.pf W
      have HAr : Hid (∀ (b : Rt) (W : World), (binOp .neq 35 (.agg #[.int .u8 (b.act.k : Int), .int .i64 b.act.i]) (.agg #[.int .u8 (r.act.k : Int), .int .i64 r.act.i])).run Try.prog W = .ok (.bool (!eqA b.act r.act)) W) := fun b W => ac_neq b.act r.act W
      have HST : Hid (∀ j (h : j < l.length), upF r (l.take (j + 1)) = stepU r (upF r (l.take j)) l[j]) := fun j h => by
        unfold upF
        rw [List.take_succ_eq_append_getElem h, List.foldl_append]
        rfl
      have HKP : Hid (∀ u : Rt, u = upF r l → rkeep l r = (decide (u.pf.len < 0) || !eqA u.act r.act)) := fun u e => by rw [e]; rfl
      have hki : (k : Int) < (n : Int) := by omega
      have HLT : Hid (∀ W : World, HasRts (W.alloc (.cells #[.bool r.pf.six, .int .u64 (hiN r.pf.n : Int), .int .u64 (loN r.pf.n : Int), .int .i64 r.pf.len, .int .u8 (r.act.k : Int), .int .i64 r.act.i] 37)) (.slice (some ⟨W.heap.size, 0, none⟩) 1 1) [r]) := fun W => lit_rt W r
      generalize r.pf.six = s0 at *
      generalize (hiN r.pf.n : Int) = s1 at *
      generalize (loN r.pf.n : Int) = s2 at *
      generalize r.pf.len = s3 at *
      generalize (r.act.k : Int) = s4 at *
      generalize r.act.i = s5 at *
      obtain ⟨Y, hY⟩ : ∃ Y, Y = wr.alloc (.cells #[.bool s0, .int .u64 s1, .int .u64 s2, .int .i64 s3, .int .u8 s4, .int .i64 s5] 37) := ⟨_, rfl⟩
      have hbY : Below wr.heap.size wr Y := by rw [hY]; exact below_new (Below.refl _ _) _
      have rY : RowAt Y wr.heap.size [.bool s0, .int .u64 s1, .int .u64 s2, .int .i64 s3, .int .u8 s4, .int .i64 s5] 37 := by rw [hY]; exact RowAt.new _ _ _
      obtain ⟨Z, hZ⟩ : ∃ Z, Z = Y.alloc (.cells #[.bool false, .int .u64 0, .int .u64 0, .int .i64 (-1), .int .u8 0, .int .i64 0] 37) := ⟨_, rfl⟩
      have hbZ : Below Y.heap.size Y Z := by rw [hZ]; exact below_new (Below.refl _ _) _
      have rZ : RowAt Z Y.heap.size [.bool false, .int .u64 0, .int .u64 0, .int .i64 (-1), .int .u8 0, .int .i64 0] 37 := by rw [hZ]; exact RowAt.new _ _ _
      have hYs : wr.heap.size < Y.heap.size := rY.lt
      have hYe : Y.heap.size = wr.heap.size + 1 := by rw [hY]; simp
      go_upto_region 8 with fail
      rw [← hY, ← hZ]
      have HIY : Hid (Own1 X Y u4 ((l.take k).filter (rkeep l))) := hI.below hbY
      clear hY hZ a0 a1 a2 a3 a4 a5 hg1 hI HI
      obtain ⟨gy, hgy⟩ : ∃ gy, gy = wr.heap.size := ⟨_, rfl⟩
      rw [← hgy] at rY hYs hYe ⊢
      obtain ⟨gu, hgu⟩ : ∃ gu, gu = gy + 1 := ⟨_, rfl⟩
      rw [← hgu] at hYe ⊢
      have HYe : Hid (Y.heap.size = gu) := hYe
      rw [hYe] at rZ hbZ hYs
      clear hgy hbY hgu hYe
      have HBZ : Hid (Below gu Y Z) := hbZ
      have HRY : Hid (RowAt Y gy [.bool s0, .int .u64 s1, .int .u64 s2, .int .i64 s3, .int .u8 s4, .int .i64 s5] 37) := rY
      have HI0 : Hid (BestI gu Z Z (upF r (l.take 0))) := ⟨by
        show RowAt Z _ [.bool false, .int .u64 ((hiN 0 : Nat) : Int), .int .u64 ((loN 0 : Nat) : Int), .int .i64 (-1), .int .u8 ((0 : Nat) : Int), .int .i64 0] _
        rw [Msg.hi0, Msg.lo0]
        exact rZ, Below.refl _ _⟩
      have HXG : Hid (∀ W, Below gu Z W → Own1 X W u4 ((l.take k).filter (rkeep l)) ∧ Below w.heap.size w W ∧ RowAt W gy [.bool s0, .int .u64 s1, .int .u64 s2, .int .i64 s3, .int .u8 s4, .int .i64 s5] 37) := fun W hb => by
        have hb2 : Below Y.heap.size Y W := by rw [HYe.out]; exact HBZ.out.trans hb
        exact ⟨HIY.out.below hb2, below2 hB (HIY.out.below hb2).bl, HRY.out.below hb2⟩
      clear rZ hbZ rY HIY HBZ HRY HYe
      go_wp2_with fail
      go_loopw [23] (fun i wr => ∃ j : Nat, j ≤ n ∧ i = .int .i64 j ∧ Hid (BestI gu Z wr (upF r (l.take j)))) (fun i _ => n - (Go.RowKit.intOf i).toNat)
      case atStart => exact ⟨0, by omega, rfl, HI0⟩
      case round =>
        obtain ⟨j, hj, rfl, HI⟩ := hrel
        have hrow := HI.out.row
        have hbel := HI.out.bel
        clear HI HI0
        obtain ⟨hOw, hBw, rYw⟩ := HXG.out _ hbel
        by_cases hjt : j < n
        · have hjz : j < l.length := by rw [← HN.out]; exact hjt
          obtain ⟨g2, i2, he2, hg2, ax⟩ := HasRts.cell (HR.out _ hBw) j hjz
          cases he2
          obtain ⟨a0, a1, a2, a3, a4, a5⟩ := six_at ax
          clear ax hOw hBw
          have HS := HST.out j hjz
          have cC := HCr.out l[j] (List.getElem_mem hjz)
          have cN := HNr.out l[j]
          obtain ⟨nb, hnb⟩ : ∃ nb, nb = upF r (l.take (j + 1)) := ⟨_, rfl⟩
          have HNB : Hid (upF r (l.take (j + 1)) = nb) := hnb.symm
          rw [← hnb] at HS
          clear hnb
          generalize upF r (l.take j) = b at HS hrow
          obtain ⟨x, hx⟩ : ∃ x : Rt, x = l[j] := ⟨_, rfl⟩
          rw [← hx] at HS cC cN a0 a1 a2 a3 a4 a5
          clear hx
          unfold stepU at HS
          generalize coversB x.pf r.pf = C at HS cC
          generalize eqP x.pf r.pf = E at HS cN
          have HS2 : Hid (nb = if (!E && C) && decide (b.pf.len < x.pf.len) then x else b) := HS
          clear HS
          have HSX : Hid (∀ W, RowAt W gu [.bool x.pf.six, .int .u64 (hiN x.pf.n : Int), .int .u64 (loN x.pf.n : Int), .int .i64 x.pf.len, .int .u8 (x.act.k : Int), .int .i64 x.act.i] 37 → Below gu Z W → BestI gu Z W x) := fun W a b => ⟨a, b⟩
          have HSB : Hid (∀ W, RowAt W gu [.bool b.pf.six, .int .u64 (hiN b.pf.n : Int), .int .u64 (loN b.pf.n : Int), .int .i64 b.pf.len, .int .u8 (b.act.k : Int), .int .i64 b.act.i] 37 → Below gu Z W → BestI gu Z W b) := fun W a b => ⟨a, b⟩
          have HSL : Hid (∀ q : Bool, q = decide (b.pf.len < x.pf.len) → nb = if (!E && C) && q then x else b) := fun q e => by rw [e]; exact HS2.out
          clear HS2
          generalize (hiN b.pf.n : Int) = b1 at hrow HSB
          generalize (loN b.pf.n : Int) = b2 at hrow HSB
          generalize b.pf.six = b0 at hrow HSB
          generalize b.act.i = b5 at hrow HSB
          generalize (b.act.k : Int) = b4 at hrow HSB
          generalize b.pf.len = b3 at hrow HSB HSL
          generalize (hiN x.pf.n : Int) = x1 at a1 cC cN HSX
          generalize (loN x.pf.n : Int) = x2 at a2 cC cN HSX
          generalize x.pf.six = x0 at a0 cC cN HSX
          generalize x.act.i = x5 at a5 HSX
          generalize (x.act.k : Int) = x4 at a4 HSX
          generalize x.pf.len = x3 at a3 cC cN HSX HSL
          have hji : (j : Int) < (n : Int) := by omega
          obtain ⟨U, hU⟩ : ∃ U, U = wr.alloc (.cells #[.bool x0, .int .u64 x1, .int .u64 x2, .int .i64 x3, .int .u8 x4, .int .i64 x5] 37) := ⟨_, rfl⟩
          have hbU : Below wr.heap.size wr U := by rw [hU]; exact below_new (Below.refl _ _) _
          have rU : RowAt U wr.heap.size [.bool x0, .int .u64 x1, .int .u64 x2, .int .i64 x3, .int .u8 x4, .int .i64 x5] 37 := by rw [hU]; exact RowAt.new _ _ _
          have hgw : gu < wr.heap.size := hrow.lt
          go_upto_region 11 with fail
          rw [← hU]
          clear hU a0 a1 a2 a3 a4 a5 hg2
          obtain ⟨gx, hgx⟩ : ∃ gx, gx = wr.heap.size := ⟨_, rfl⟩
          have hne : gx ≠ gu := by omega
          have hne2 : gx ≠ gy := by omega
          rw [← hgx] at rU ⊢
          have rB := RowAt.below hrow hbU
          have rYU := RowAt.below rYw hbU
          have hbG : Below gu Z U := hbel.trans (hbU.mono (by omega))
          clear hgx hrow rYw hbel hbU
          obtain ⟨y0, y1, y2, y3, y4, y5, yf⟩ := six_of rU
          obtain ⟨z0, z1, z2, z3, z4, z5, zf⟩ := six_of rB
          obtain ⟨t0, t1, t2, t3, t4, t5, tf⟩ := six_of rYU
          cases E
          · go_wp2_with fail
            clear y0 y1 y2 y3 y4 y5 yf z0 z1 z2 z3 z4 z5 zf t0 t1 t2 t3 t4 t5 tf
            go_at_call 13; refine (cC _).mono ?_; rintro e w3 ⟨rfl, hb3⟩
            have hbG3 : Below gu Z w3 := hbG.trans (hb3.mono (by have := rB.lt; omega))
            replace rB := RowAt.below rB hb3
            replace rU := RowAt.below rU hb3
            obtain ⟨y0, y1, y2, y3, y4, y5, yf⟩ := six_of rU
            obtain ⟨z0, z1, z2, z3, z4, z5, zf⟩ := six_of rB
            cases C
            · have HE2 : Hid (nb = b) := HSL.out _ rfl
              clear HSL
              go_wp2_with fail
              go_roundw
              case rel => exact ⟨j + 1, by omega, by go_num, by show BestI _ _ _ _; rw [HNB.out, HE2.out]; exact HSB.out _ rB hbG3⟩
              case measure => simp [Go.RowKit.intOf]; omega
            · cases hq : decide (b3 < x3)
              · have HE2 : Hid (nb = b) := HSL.out false (by rw [hq])
                clear HSL
                go_wp2_with fail
                go_roundw
                case rel => exact ⟨j + 1, by omega, by go_num, by show BestI _ _ _ _; rw [HNB.out, HE2.out]; exact HSB.out _ rB hbG3⟩
                case measure => simp [Go.RowKit.intOf]; omega
              · have HE2 : Hid (nb = x) := HSL.out true (by rw [hq])
                clear HSL
                go_wp2_with fail
                go_roundw
                case rel => exact ⟨j + 1, by omega, by go_num, by show BestI _ _ _ _; rw [HNB.out, HE2.out]; exact HSX.out _ (set6_row rB _ _ _ _ _ _) (set6_bl hbG3 (Nat.le_refl _) _ _ _ _ _ _)⟩
                case measure => simp [Go.RowKit.intOf]; omega
          · have HE2 : Hid (nb = b) := HSL.out _ rfl
            clear HSL
            go_wp2_with fail
            go_roundw
            case rel => exact ⟨j + 1, by omega, by go_num, by show BestI _ _ _ _; rw [HNB.out, HE2.out]; exact HSB.out _ rB hbG⟩
            case measure => simp [Go.RowKit.intOf]; omega
        · have hjf : decide ((j : Int) < (n : Int)) = false := decide_eq_false (by omega)
          have hjn : l.take j = l := List.take_of_length_le (by rw [← HN.out]; omega)
          rw [hjn] at hrow
          obtain ⟨b, hb⟩ : ∃ b, b = upF r l := ⟨_, rfl⟩
          have HKP2 := HKP.out b hb
          rw [HKP2] at HA
          rw [← hb] at hrow
          clear HKP2 hb hjn
          have cA := HAr.out b
          generalize eqA b.act r.act = A at HA cA
          replace HA : Hid ((l.take (k + 1)).filter (rkeep l) = (l.take k).filter (rkeep l) ++ (if (decide (b.pf.len < 0) || !A) then [r] else [])) := HA
          have HA2 : Hid (∀ q : Bool, q = decide (b.pf.len < 0) → (l.take (k + 1)).filter (rkeep l) = (l.take k).filter (rkeep l) ++ (if (q || !A) then [r] else [])) := fun q e => by rw [e]; exact HA.out
          clear HA
          generalize (hiN b.pf.n : Int) = b1 at hrow
          generalize (loN b.pf.n : Int) = b2 at hrow
          generalize b.pf.six = b0 at hrow
          generalize b.act.i = b5 at hrow cA
          generalize (b.act.k : Int) = b4 at hrow cA
          generalize b.pf.len = b3 at hrow HA2
          obtain ⟨z0, z1, z2, z3, z4, z5, zf⟩ := six_of hrow
          obtain ⟨t0, t1, t2, t3, t4, t5, tf⟩ := six_of rYw
          have hin : ∀ (W : World), W = wr → Own1 X W u4 ((l.take k).filter (rkeep l)) := fun W e => by rw [e]; exact hOw
          clear hrow hbel rYw HXG HST HKP HAr HNr HCr
          have app : Hid (∀ m, m = (l.take (k + 1)).filter (rkeep l) → m = (l.take k).filter (rkeep l) ++ [r] → ∃ v' w4, (∀ ty, (Builtin.append_ #[22, 22] ty #[u4, .slice (some ⟨wr.heap.size, 0, none⟩) 1 1]).run Try.prog (wr.alloc (.cells #[.bool s0, .int .u64 s1, .int .u64 s2, .int .i64 s3, .int .u8 s4, .int .i64 s5] 37)) = .ok v' w4) ∧ Hid (Own1 X w4 v' ((l.take (k + 1)).filter (rkeep l)))) := fun m e1 e2 => by
            obtain ⟨v', w4, hrun, hO⟩ := (hOw.below (below_new (Below.refl _ wr) (.cells #[.bool s0, .int .u64 s1, .int .u64 s2, .int .i64 s3, .int .u8 s4, .int .i64 s5] 37))).app (HLT.out wr) (by simp only [List.length_cons, List.length_nil]; omega)
            exact ⟨v', w4, hrun, by show Own1 _ _ _ _; rw [← e1, e2]; exact hO⟩
          cases hq : decide (b3 < 0)
          · have HA3 := HA2.out false (by rw [hq])
            clear HA2
            cases A
            · obtain ⟨v', w4, hrun, HO⟩ := app.out _ rfl HA3
              clear HA3 app hOw hin HLT
              go_wp2_with fail
              go_roundw
              case rel => exact ⟨k + 1, by omega, by go_num, HO⟩
              case measure => simp [Go.RowKit.intOf]; omega
            · have HO : Hid (Own1 X wr u4 ((l.take (k + 1)).filter (rkeep l))) := by
                show Own1 _ _ _ _
                rw [HA3]
                simpa using hOw
              clear HA3 app hOw hin HLT
              go_wp2_with fail
              go_roundw
              case rel => exact ⟨k + 1, by omega, by go_num, HO⟩
              case measure => simp [Go.RowKit.intOf]; omega
          · have HA3 := HA2.out true (by rw [hq])
            clear HA2
            obtain ⟨v', w4, hrun, HO⟩ := app.out _ rfl HA3
            clear HA3 app hOw hin HLT
            go_wp2_with fail
            go_roundw
            case rel => exact ⟨k + 1, by omega, by go_num, HO⟩
            case measure => simp [Go.RowKit.intOf]; omega
    · have hkf : decide ((k : Int) < (n : Int)) = false := decide_eq_false (by omega)
      rw [List.take_of_length_le (by rw [← HN.out]; omega)] at hI
      have hh := HE.out _ _ hI
      have hbl := below2 hB hI.bl
      clear HI hI
      go_wp2_with fail
      go_ret2
      exact ⟨_, rfl, hh, hbl⟩
end Go.Proofs.Ytaaedgfacnaggaa.Tr
