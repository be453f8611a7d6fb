/- What a net took it never takes again, plain. -/
import Derived.Test.YtkjhnefbcnnjlaaTv26
import Derived.Test.YtkjhnefbcnnjlaaTv17
import Derived.Test.YtkjhnefbcnnjlaaTv14
set_option linter.unusedVariables false
namespace Go.Proofs.Ytkjhnefbcnnjlaa.Nt
open Go.RowKit
open Go.Proofs.Ytkjhnefbcnnjlaa.Lk (HasRow HasLks.keep)
open Go.Proofs.Ytkjhnefbcnnjlaa.Tr (HasRts.keep)
open Go.Proofs.Ytkjhnefbcnnjlaa.Msg (Ev FitE evV evC)
open Go.Proofs.Ytkjhnefbcnnjlaa.Fib
open Go.Proofs.Ytkjhnefbcnnjlaa.Ord (St HasSts HasSts.keep HasEvs HasEvs.keep)
open Go.Proofs.Ytkjhnefbcnnjlaa.Addr (RowAt below2 below_new bset RowAt.lt RowAt.cell RowAt.below RowAt.new RowAt.alloc gset grefl cells2 hiN loN)
theorem results_ctt {fn : Func} {p u x : Tmp} {ty : TypeId} (h : fn.results = #[.cell p ty, .tmp u, .tmp x]) (tmps : Array Value) (P : Program) (w : World) :
    (results fn tmps).run P w = ((asAddr (tmps.getD p undef)).run P w).andThen fun a w₁ => ((loadVar ty a).run P w₁).andThen fun v w₂ => .ok (.tuple #[v, tmps.getD u undef, tmps.getD x undef]) w₂ := by
  simp only [results, h]
  simp [Sem.run_bind, Result.andThen]
def AllIs (n : NetT) (k : Nat) (z : Int) (w : World) (e : Ending) (w' : World) : Prop :=
  ∃ o1 n1 m1 o2 n2 m2, e = .returned (.tuple #[.agg #[.slice o1 n1 m1, .slice o2 n2 m2], .int .i64 (k : Int), .int .i64 z]) ∧ HasSts w' (.slice o1 n1 m1) n.seats ∧ HasRos w' (.slice o2 n2 m2) n.ros ∧ Below w.heap.size w w'
set_option maxHeartbeats 16000000 in
set_option maxRecDepth 20000 in
theorem all_bad (so lo : Option Addr) (sn sc ln lc : Nat) (ve : Value) (h z0 : Int) (S : List St) (L : List Ro) (w : World) (hS : HasSts w (.slice so sn sc) S) (hL : HasRos w (.slice lo ln lc) L) (hz0 : ¬ z0 = 0) (c1 : ∀ W, HasSts W (.slice so sn sc) S → HasRos W (.slice lo ln lc) L → Calls Try.prog 13 #[.agg #[.slice so sn sc, .slice lo ln lc]] W fun e w' => e = .returned (.int .i64 z0) ∧ Below W.heap.size W w') :
    Calls Try.prog 5 #[.agg #[.slice so sn sc, .slice lo ln lc], ve, .int .i64 h] w (AllIs zeroN 0 z0 w) := by
  have hB := Below.refl w.heap.size w
  go_enter Try.func5, Try.ntmps5
  obtain ⟨Y1, hY⟩ : ∃ Y, Y = ((w.alloc (.cells #[.slice so sn sc, .slice lo ln lc] 27)).alloc (.cells #[.slice none 0 0, .slice none 0 0] 27)) := ⟨_, rfl⟩
  have hbY : Below w.heap.size w Y1 := by rw [hY]; exact below_new (below_new (Below.refl _ _) _) _
  have hle : w.heap.size ≤ w.heap.size := hB.size
  obtain ⟨gn, hgn⟩ : ∃ g, g = w.heap.size := ⟨_, rfl⟩
  have rn : RowAt Y1 gn [.slice so sn sc, .slice lo ln lc] 27 := by
    have h := (RowAt.new w [.slice so sn sc, .slice lo ln lc] 27).alloc (.cells #[.slice none 0 0, .slice none 0 0] 27)
    rw [hgn, hY]; exact h
  have len : w.heap.size ≤ gn := by omega
  obtain ⟨gz, hgz⟩ : ∃ g, g = w.heap.size + 1 := ⟨_, rfl⟩
  have rz : RowAt Y1 gz [.slice none 0 0, .slice none 0 0] 27 := by
    have h := RowAt.new (w.alloc (.cells #[.slice so sn sc, .slice lo ln lc] 27)) [.slice none 0 0, .slice none 0 0] 27
    simp only [World.size_alloc] at h
    rw [hgz, hY]; exact h
  have lez : w.heap.size ≤ gz := by omega
  have nenz : gn ≠ gz := by omega
  replace hS := hS.keep hbY
  replace hL := hL.keep hbY
  replace hB := below2 hB hbY
  go_upto_region 1 with fail
  rw [← hY, ← hgz, ← hgn]
  clear hY hbY hle hgn hgz
  obtain ⟨n0, n1, nf⟩ := cells2 rn
  go_wp2_with fail
  clear n0 n1 nf
  go_at_call 13; refine (c1 _ hS hL).mono ?_; rintro e w2 ⟨rfl, hb⟩
  replace rn := RowAt.below rn hb
  replace rz := RowAt.below rz hb
  replace hS := hS.keep hb
  replace hL := hL.keep hb
  replace hB := below2 hB hb
  clear hb
  obtain ⟨zz0, zz1, zzf⟩ := cells2 rz
  go_wp2_with fail
  (try simp only [Exit.inBlock, Exit.then])
  refine bodyPost_ret (v := .tuple #[.agg #[.slice none 0 0, .slice none 0 0], .int .i64 0, .int .i64 z0]) ?_ rfl ⟨_, _, _, _, _, _, rfl, Ord.hasRow_nil _ 4, hasRos_nil _, bset (bset hB lez) lez⟩
  · rw [results_ctt rfl]
    go_simp
/-- a net at work: a fabric that holds it -/
structure Wrk (w W : World) (gf gz : Nat) (n : NetT) : Prop where
  ok : okN n = true
  fit : FitN n
  row : ∃ o1 n1 m1 o2 n2 m2, RowAt W gf [.slice o1 n1 m1, .slice o2 n2 m2] 62 ∧ HasSts W (.slice o1 n1 m1) n.seats ∧ HasRos W (.slice o2 n2 m2) n.ros
  rz : RowAt W gz [.slice none 0 0, .slice none 0 0] 27
  bl : Below w.heap.size w W
theorem wrk_take {w W w' : World} {gf gz : Nat} {n : NetT} {e : Ev} {h z : Int} {x : Ending} (hw : Wrk w W gf gz n) (he : FitE e) (hlt : gz < gf) (hle : w.heap.size ≤ gf) (hz : (takeN n e h).2 = z) (hr : FabIs gf (takeN n e h).1 z W x w') : x = .returned (.int .i64 z) ∧ (z = 0 → Wrk w w' gf gz (takeN n e h).1) ∧ (¬ z = 0 → (takeN n e h).1 = n → Wrk w w' gf gz n) := by
  obtain ⟨o1, n1, m1, o2, n2, m2, e1, r1, r2, r3, r4⟩ := hr
  refine ⟨e1, fun h0 => ⟨take_right hw.ok (by rw [hz]; exact h0), fit_take hw.fit hw.ok he, ⟨_, _, _, _, _, _, r1, r2, r3⟩, rowB hw.rz r4 hlt, hw.bl.trans (r4.mono hle)⟩, fun h0 hn => ⟨hw.ok, hw.fit, ⟨_, _, _, _, _, _, r1, by rw [hn] at r2; exact r2, by rw [hn] at r3; exact r3⟩, rowB hw.rz r4 hlt, hw.bl.trans (r4.mono hle)⟩⟩
theorem take_same {n : NetT} {e : Ev} {h : Int} (hz : ¬ (takeN n e h).2 = 0) : (takeN n e h).1 = n := by
  unfold takeN at hz ⊢
  split
  · rename_i h1
    rw [if_pos h1] at hz
    split
    · rename_i h2
      rw [if_pos h2] at hz
      split
      · rfl
      · rename_i h3
        rw [if_neg h3] at hz
        exact absurd rfl hz
    · rfl
  · rfl
set_option maxHeartbeats 16000000 in
set_option maxRecDepth 20000 in
theorem all_walk (so lo : Option Addr) (sn sc ln lc : Nat) (eo : Option Addr) (en ecap : Nat) (es : List Ev) (h : Int) (S : List St) (L : List Ro) (w : World) (hS : HasSts w (.slice so sn sc) S) (hL : HasRos w (.slice lo ln lc) L) (hE : HasEvs w (.slice eo en ecap) es) (HEN : Hid (en = es.length)) (heni : (en : Int) ≤ 9223372036854775807) (HFE : Hid (∀ e ∈ es, FitE e)) (HOK : Hid (okN ⟨S, L⟩ = true)) (HFN : Hid (FitN ⟨S, L⟩)) (c1 : ∀ W, HasSts W (.slice so sn sc) S → HasRos W (.slice lo ln lc) L → Calls Try.prog 13 #[.agg #[.slice so sn sc, .slice lo ln lc]] W fun e w' => e = .returned (.int .i64 0) ∧ Below W.heap.size W w') (c2 : ∀ W, HasSts W (.slice so sn sc) S → HasRos W (.slice lo ln lc) L → Calls Try.prog 14 #[.agg #[.slice so sn sc, .slice lo ln lc]] W fun e w' => ∃ o1 n1 m1 o2 n2 m2, e = .returned (.agg #[.slice o1 n1 m1, .slice o2 n2 m2]) ∧ HasSts w' (.slice o1 n1 m1) S ∧ HasRos w' (.slice o2 n2 m2) L ∧ Below W.heap.size W w') :
    Calls Try.prog 5 #[.agg #[.slice so sn sc, .slice lo ln lc], .slice eo en ecap, .int .i64 h] w (AllIs (allF h ⟨S, L⟩ es 0).1 (allF h ⟨S, L⟩ es 0).2.1 (allF h ⟨S, L⟩ es 0).2.2 w) := by
  have hB := Below.refl w.heap.size w
  have HEV : Hid (∀ W : World, Below w.heap.size w W → HasEvs W (.slice eo en ecap) es) := fun W hb => hE.keep hb
  clear hE
  obtain ⟨R, hR⟩ : ∃ R, R = allF h ⟨S, L⟩ es 0 := ⟨_, rfl⟩
  have HR0 : Hid (R = allF h ⟨S, L⟩ es 0) := hR
  rw [← hR]
  clear hR
  go_enter Try.func5, Try.ntmps5
  obtain ⟨Y1, hY⟩ : ∃ Y, Y = ((w.alloc (.cells #[.slice so sn sc, .slice lo ln lc] 27)).alloc (.cells #[.slice none 0 0, .slice none 0 0] 27)) := ⟨_, rfl⟩
  have hbY : Below w.heap.size w Y1 := by rw [hY]; exact below_new (below_new (Below.refl _ _) _) _
  have hle : w.heap.size ≤ w.heap.size := hB.size
  obtain ⟨gn, hgn⟩ : ∃ g, g = w.heap.size := ⟨_, rfl⟩
  have rn : RowAt Y1 gn [.slice so sn sc, .slice lo ln lc] 27 := by
    have h := (RowAt.new w [.slice so sn sc, .slice lo ln lc] 27).alloc (.cells #[.slice none 0 0, .slice none 0 0] 27)
    rw [hgn, hY]; exact h
  have len : w.heap.size ≤ gn := by omega
  obtain ⟨gz, hgz⟩ : ∃ g, g = w.heap.size + 1 := ⟨_, rfl⟩
  have rz : RowAt Y1 gz [.slice none 0 0, .slice none 0 0] 27 := by
    have h := RowAt.new (w.alloc (.cells #[.slice so sn sc, .slice lo ln lc] 27)) [.slice none 0 0, .slice none 0 0] 27
    simp only [World.size_alloc] at h
    rw [hgz, hY]; exact h
  have lez : w.heap.size ≤ gz := by omega
  have nenz : gn ≠ gz := by omega
  replace hS := hS.keep hbY
  replace hL := hL.keep hbY
  replace hB := below2 hB hbY
  go_upto_region 1 with fail
  rw [← hY, ← hgz, ← hgn]
  clear hY hbY hle hgn hgz
  obtain ⟨n0, n1, nf⟩ := cells2 rn
  go_wp2_with fail
  clear n0 n1 nf
  go_at_call 13; refine (c1 _ hS hL).mono ?_; rintro e w2 ⟨rfl, hb⟩
  replace rn := RowAt.below rn hb
  replace rz := RowAt.below rz hb
  replace hS := hS.keep hb
  replace hL := hL.keep hb
  replace hB := below2 hB hb
  clear hb
  obtain ⟨n0, n1, nf⟩ := cells2 rn
  go_wp2_with fail
  clear n0 n1 nf
  go_at_call 14; refine (c2 _ hS hL).mono ?_; rintro e w3 ⟨o1, n1, m1, o2, n2, m2, rfl, hT, hM, hb⟩
  replace rn := RowAt.below rn hb
  replace rz := RowAt.below rz hb
  replace hS := hS.keep hb
  replace hL := hL.keep hb
  replace hB := below2 hB hb
  clear hb
  clear rn hS hL
  obtain ⟨Y4, hY⟩ : ∃ Y, Y = (w3.alloc (.cells #[.slice o1 n1 m1, .slice o2 n2 m2] 62)) := ⟨_, rfl⟩
  have hbY : Below w3.heap.size w3 Y4 := by rw [hY]; exact below_new (Below.refl _ _) _
  have hle : w.heap.size ≤ w3.heap.size := hB.size
  obtain ⟨gf, hgf⟩ : ∃ g, g = w3.heap.size := ⟨_, rfl⟩
  have rf : RowAt Y4 gf [.slice o1 n1 m1, .slice o2 n2 m2] 62 := by
    have h := RowAt.new w3 [.slice o1 n1 m1, .slice o2 n2 m2] 62
    rw [hgf, hY]; exact h
  have lef : w.heap.size ≤ gf := by omega
  have nezf : gz ≠ gf := by have := RowAt.lt rz; omega
  have ltzf : gz < gf := by have := RowAt.lt rz; omega
  replace rz := RowAt.below rz hbY
  replace hT := hT.keep hbY
  replace hM := hM.keep hbY
  replace hB := below2 hB hbY
  go_upto_region 5 with fail
  rw [← hY, ← hgf]
  clear hY hbY hle hgf
  have HW0 : Hid (Wrk w Y4 gf gz ⟨S, L⟩) := ⟨HOK.out, HFN.out, ⟨_, _, _, _, _, _, rf, hT, hM⟩, rz, hB⟩
  clear rf rz hT hM hB HOK HFN
  go_wp2_with fail
  go_loopw [25] (fun i wr => ∃ k : Nat, k ≤ en ∧ i = .int .i64 k ∧ Hid (∃ n, Wrk w wr gf gz n ∧ R = allF h n (es.drop k) k)) (fun i _ => en - (Go.RowKit.intOf i).toNat)
  case atStart => exact ⟨0, by omega, rfl, ⟨_, HW0.out, by rw [List.drop_zero]; exact HR0.out⟩⟩
  case round =>
    obtain ⟨k, hk, rfl, HI⟩ := hrel
    clear HW0 HR0
    obtain ⟨n, hw, hRk⟩ := HI.out
    clear HI
    by_cases hlt : k < en
    · have hkz : k < es.length := by rw [← HEN.out]; exact hlt
      obtain ⟨b1, i1, rfl, hb1, x0, x1, x2, x3, x4, x5, x6, x7, x8, x9, x10, x11⟩ := HasEvs.cell (HEV.out _ hw.bl) k hkz
      have fe := HFE.out es[k] (List.getElem_mem hkz)
      have HRC : Hid (R = if (takeN n es[k] h).2 = 0 then allF h (takeN n es[k] h).1 (es.drop (k + 1)) (k + 1) else (n, k, (takeN n es[k] h).2)) := by
        show R = _
        rw [hRk, List.drop_eq_getElem_cons hkz]
        rfl
      obtain ⟨ev, hev⟩ : ∃ ev, ev = es[k] := ⟨_, rfl⟩
      rw [← hev] at x0 x1 x2 x3 x4 x5 x6 x7 x8 x9 x10 x11 fe HRC
      clear hev hRk
      have hki : (k : Int) < (en : Int) := by omega
      obtain ⟨V, hV⟩ : ∃ V, V = wr.alloc (.cells #[.int .u8 (ev.kind : Int), .int .i64 ev.router, .int .u64 (ev.seq : Int), .int .i64 ev.time, .bool ev.pf.six, .int .u64 (hiN ev.pf.n : Int), .int .u64 (loN ev.pf.n : Int), .int .i64 ev.pf.len, .int .u8 (ev.act.k : Int), .int .i64 ev.act.i, .int .i64 ev.iface, .int .i64 ev.peer] 49) := ⟨_, rfl⟩
      have hbV : Below wr.heap.size wr V := by rw [hV]; exact below_new (Below.refl _ _) _
      have rV : RowAt V wr.heap.size [.int .u8 (ev.kind : Int), .int .i64 ev.router, .int .u64 (ev.seq : Int), .int .i64 ev.time, .bool ev.pf.six, .int .u64 (hiN ev.pf.n : Int), .int .u64 (loN ev.pf.n : Int), .int .i64 ev.pf.len, .int .u8 (ev.act.k : Int), .int .i64 ev.act.i, .int .i64 ev.iface, .int .i64 ev.peer] 49 := by rw [hV]; exact RowAt.new _ _ _
      go_upto_region 8 with fail
      rw [← hV]
      obtain ⟨a1, a2, a3, a4, a5, a6, r1, r2, r3⟩ := hw.row
      have hwV : Wrk w V gf gz n := ⟨hw.ok, hw.fit, ⟨_, _, _, _, _, _, r1.below hbV, r2.keep hbV, r3.keep hbV⟩, hw.rz.below hbV, below2 hw.bl hbV⟩
      have ct := take_any n ev h gf a1 a4 a2 a3 a5 a6 V (r1.below hbV) (r2.keep hbV) (r3.keep hbV) hw.ok hw.fit fe
      have HT : Hid (∀ x w', FabIs gf (takeN n ev h).1 (takeN n ev h).2 V x w' → x = .returned (.int .i64 (takeN n ev h).2) ∧ ((takeN n ev h).2 = 0 → Wrk w w' gf gz (takeN n ev h).1) ∧ (¬ (takeN n ev h).2 = 0 → Wrk w w' gf gz n)) := fun x w' hx => by
        obtain ⟨q1, q2, q3⟩ := wrk_take hwV fe ltzf lef rfl hx
        exact ⟨q1, q2, fun h0 => q3 h0 (take_same h0)⟩
      clear hV hbV x0 x1 x2 x3 x4 x5 x6 x7 x8 x9 x10 x11 r1 r2 r3 hw hb1 fe hwV
      generalize wr.heap.size = ge at rV ⊢
      unfold evV evC at ct
      obtain ⟨⟨y0, y1, y2, y3, y4, y5⟩, ⟨y6, y7, y8, y9, y10, y11⟩, yf⟩ := Msg.cells12' rV
      go_wp2_with fail
      go_at_call 15; refine ct.mono ?_; rintro x w9 hx
      obtain ⟨rfl, HT1, HT2⟩ := HT.out x w9 hx
      clear y0 y1 y2 y3 y4 y5 y6 y7 y8 y9 y10 y11 yf HT hx ct
      by_cases h0 : (takeN n ev h).2 = 0
      · have HN : Hid (∃ n', Wrk w w9 gf gz n' ∧ R = allF h n' (es.drop (k + 1)) (k + 1)) := ⟨_, HT1 h0, by rw [HRC.out, if_pos h0]⟩
        rw [h0]
        clear HT1 HT2 HRC
        go_wp2_with fail
        go_roundw
        case rel => exact ⟨k + 1, by omega, by go_num, HN⟩
        case measure => simp [Go.RowKit.intOf]; omega
      · have hw := HT2 h0
        have HV : Hid (R = (n, k, (takeN n ev h).2)) := by show R = _; rw [HRC.out, if_neg h0]
        clear HT1 HT2 HRC
        generalize (takeN n ev h).2 = z at *
        obtain ⟨a1, a2, a3, a4, a5, a6, r1, r2, r3⟩ := hw.row
        have rz := hw.rz
        have hB := hw.bl
        obtain ⟨zz0, zz1, zzf⟩ := cells2 rz
        obtain ⟨f0, f1, ff⟩ := cells2 r1
        go_wp2_with fail
        (try simp only [Exit.inBlock, Exit.then])
        refine bodyPost_ret (v := .tuple #[.agg #[.slice a1 a2 a3, .slice a4 a5 a6], .int .i64 (k : Int), .int .i64 z]) ?_ rfl ⟨_, _, _, _, _, _, by rw [HV.out], by rw [HV.out]; exact sts_off r2 rz (gset (gset (grefl _ _))), by rw [HV.out]; exact ros_off r3 rz (gset (gset (grefl _ _))), bset (bset hB lez) lez⟩
        · rw [results_ctt rfl]
          go_simp
    · have hkn2 : k = en := by omega
      subst hkn2
      have hkd : decide ((k : Int) < (k : Int)) = false := decide_eq_false (by omega)
      have HV : Hid (R = (n, k, 0)) := by show R = _; rw [hRk, List.drop_of_length_le (by rw [← HEN.out]; exact Nat.le_refl _)]; rfl
      obtain ⟨a1, a2, a3, a4, a5, a6, r1, r2, r3⟩ := hw.row
      have rz := hw.rz
      have hB := hw.bl
      obtain ⟨zz0, zz1, zzf⟩ := cells2 rz
      obtain ⟨f0, f1, ff⟩ := cells2 r1
      clear hRk
      go_wp2_with fail
      (try simp only [Exit.inBlock, Exit.then])
      refine bodyPost_ret (v := .tuple #[.agg #[.slice a1 a2 a3, .slice a4 a5 a6], .int .i64 (k : Int), .int .i64 0]) ?_ rfl ⟨_, _, _, _, _, _, by rw [HV.out], by rw [HV.out]; exact sts_off r2 rz (gset (gset (grefl _ _))), by rw [HV.out]; exact ros_off r3 rz (gset (gset (grefl _ _))), bset (bset hB lez) lez⟩
      · rw [results_ctt rfl]
        go_simp
theorem all_any (n : NetT) (es : List Ev) (h : Int) (u v ve : Value) (w : World) (hS : HasSts w u n.seats) (hL : HasRos w v n.ros) (hE : HasEvs w ve es) (hf : FitN n) (he : ∀ e ∈ es, FitE e) :
    Calls Try.prog 5 #[.agg #[u, v], ve, .int .i64 h] w (AllIs (allN n es h).1 (allN n es h).2.1 (allN n es h).2.2 w) := by
  obtain ⟨so, sc, rfl, _⟩ := Ord.HasRow.slice hS
  obtain ⟨lo, lc, rfl, _⟩ := HasRos.slice hL
  obtain ⟨eo, ec, rfl, q1, q2⟩ := Ord.HasRow.slice hE
  have c1 := fun W h1 h2 => check_any n (.slice so n.seats.length sc) (.slice lo n.ros.length lc) W h1 h2 hf.ros
  cases hok : okN n with
  | false =>
    have e1 : checkN n = 2 := by unfold checkN; rw [hok]; rfl
    have e2 : allN n es h = (zeroN, 0, 2) := by unfold allN; rw [hok]; rfl
    rw [e1] at c1
    rw [e2]
    exact all_bad so lo _ sc _ lc _ h 2 n.seats n.ros w hS hL (by decide) c1
  | true =>
    have e1 : checkN n = 0 := by unfold checkN; rw [hok]; rfl
    have e2 : allN n es h = allF h n es 0 := by unfold allN; rw [hok]; rfl
    rw [e1] at c1
    rw [e2]
    have hl := ros_len hok
    have hl2 : n.seats.length ≤ 64 := by have := (okN_parts hok).2.1; omega
    have c2 := fun W h1 h2 => fresh_any n (.slice so n.seats.length sc) (.slice lo n.ros.length lc) W h1 h2 (by omega) (by omega) (fun R hR => by have := okRo_many (ros_ok hok R hR); omega)
    exact all_walk so lo _ sc _ lc eo _ ec es h n.seats n.ros w hS hL hE rfl (by omega) he hok hf c1 c2
end Go.Proofs.Ytkjhnefbcnnjlaa.Nt
namespace Go.Proofs.Ytkjhnefbcnnjlaa.Nt
open Go.Proofs.Ytkjhnefbcnnjlaa.Msg (Ev)
open Go.Proofs.Ytkjhnefbcnnjlaa.Fib
theorem up_oneR {L : List Ro} (h : UpR L) {x y : Ro} (hx : x ∈ L) (hy : y ∈ L) (e : x.id = y.id) : x = y := by
  obtain ⟨j, hj, rfl⟩ := List.getElem_of_mem hx
  obtain ⟨k, hk, rfl⟩ := List.getElem_of_mem hy
  rcases Nat.lt_trichotomy j k with g | g | g
  · have := List.pairwise_iff_getElem.1 h j k hj hk g
    omega
  · subst g; rfl
  · have := List.pairwise_iff_getElem.1 h k j hk hj g
    omega
theorem find_mem {n : NetT} (h : okN n = true) {R : Ro} (hR : R ∈ n.ros) : findN n R.id = (R, 0) := by
  obtain ⟨_, _, p3, p4⟩ := pos_parts n.ros R.id (ros_up h)
  unfold findN
  rw [h]
  cases hi : isN n.ros R.id with
  | false => exact absurd rfl (p4 hi R hR)
  | true =>
    have := up_oneR (ros_up h) (p3 hi).1 hR (p3 hi).2
    rw [this]
    rfl
theorem take_q {n : NetT} {e : Ev} {h : Int} (hok : okN n = true) (hz : (takeN n e h).2 = 0) : okRo (applyRo (wasN n.ros e.router) e).1 = true ∧ (applyRo (wasN n.ros e.router) e).1.id = e.router ∧ (applyRo (wasN n.ros e.router) e).1.up = !decide (e.kind = 2) := by
  obtain ⟨t1, t2, t3, t4⟩ := take_zero hz
  have hw := was_ok hok (ev_id (next_okE t1).2.1)
  rcases apply_cases (wasN n.ros e.router) e with g | g | g
  · exact ⟨g.2.2.2.2.2.1, by rw [g.2.2.2.2.2.2.1]; exact hw.2, g.2.2.2.2.2.2.2.1⟩
  · rw [g.1] at t2; exact absurd t2 (by decide)
  · exact absurd t2 g.1
end Go.Proofs.Ytkjhnefbcnnjlaa.Nt
namespace Go.Proofs.Ytkjhnefbcnnjlaa.Nt
open Go.Proofs.Ytkjhnefbcnnjlaa.Msg (Ev)
open Go.Proofs.Ytkjhnefbcnnjlaa.Fib
open Go.Proofs.Ytkjhnefbcnnjlaa.Ord (St nextL okL askL misL isIn seatOf)
theorem ext_key {α : Type} (k : α → Int) : ∀ (a b : List α), a.Pairwise (fun x y => k x < k y) → b.Pairwise (fun x y => k x < k y) → (∀ z, z ∈ a ↔ z ∈ b) → a = b := by
  intro a
  induction a with
  | nil =>
    intro b _ _ h
    cases b with
    | nil => rfl
    | cons y b => exact absurd ((h y).2 List.mem_cons_self) (by simp)
  | cons x a ih =>
    intro b ha hb h
    cases b with
    | nil => exact absurd ((h x).1 List.mem_cons_self) (by simp)
    | cons y b =>
      have h1 := List.pairwise_cons.1 ha
      have h2 := List.pairwise_cons.1 hb
      have hxy : x = y := by
        rcases List.mem_cons.1 ((h x).1 List.mem_cons_self) with e | e
        · exact e
        · rcases List.mem_cons.1 ((h y).2 List.mem_cons_self) with e2 | e2
          · exact e2.symm
          · have := h2.1 x e
            have := h1.1 y e2
            omega
      subst hxy
      congr 1
      refine ih b h1.2 h2.2 (fun z => ?_)
      constructor
      · intro hz
        rcases List.mem_cons.1 ((h z).1 (List.mem_cons_of_mem _ hz)) with e | e
        · subst e; have := h1.1 z hz; omega
        · exact e
      · intro hz
        rcases List.mem_cons.1 ((h z).2 (List.mem_cons_of_mem _ hz)) with e | e
        · subst e; have := h2.1 z hz; omega
        · exact e
theorem mem_put {n : NetT} (h : okN n = true) {r : Int} {Q R : Ro} : R ∈ putN n.ros r Q ↔ R = Q ∨ (R ∈ n.ros ∧ R.id ≠ r) := by
  rw [put_parts h]
  simp only [List.mem_append, List.mem_singleton, List.mem_filter, decide_eq_true_eq]
  constructor
  · rintro (⟨h1, h2⟩ | h | ⟨h1, h2⟩)
    · exact .inr ⟨h1, by omega⟩
    · exact .inl h
    · exact .inr ⟨h1, by omega⟩
  · rintro (h | ⟨h1, h2⟩)
    · exact .inr (.inl h)
    · rcases Int.lt_or_gt_of_ne h2 with g | g
      · exact .inl ⟨h1, g⟩
      · exact .inr (.inr ⟨h1, g⟩)
theorem was_eq {L M : List Ro} (hL : UpR L) (hM : UpR M) {r : Int} (h : ∀ R : Ro, R.id = r → (R ∈ L ↔ R ∈ M)) : wasN L r = wasN M r := by
  obtain ⟨_, _, p3, p4⟩ := pos_parts L r hL
  obtain ⟨_, _, q3, q4⟩ := pos_parts M r hM
  cases hi : isN L r with
  | true =>
    obtain ⟨a1, a2⟩ := p3 hi
    have hm := (h _ a2).1 a1
    cases hj : isN M r with
    | true =>
      obtain ⟨b1, b2⟩ := q3 hj
      exact up_oneR hM hm b1 (by rw [a2, b2])
    | false => exact absurd a2 (q4 hj _ hm)
  | false =>
    cases hj : isN M r with
    | true =>
      obtain ⟨b1, b2⟩ := q3 hj
      exact absurd b2 (p4 hi _ ((h _ b2).2 b1))
    | false => unfold wasN; rw [hi, hj]; rfl
theorem mis_apart {l m : List St} {e : Ev} {h : Int} (h1 : isIn m e.router = isIn l e.router) (h2 : seatOf m e.router = seatOf l e.router) (hz : misL m e h = 0) : misL l e h = 0 ∨ misL l e h = 8 := by
  unfold misL at hz ⊢
  rw [h1, h2] at hz
  by_cases c1 : isIn l e.router = false ∧ e.kind ≠ 1
  · rw [if_pos c1] at hz; exact absurd hz (by decide)
  · rw [if_neg c1] at hz ⊢
    by_cases c2 : e.seq ≠ (seatOf l e.router).seq + 1
    · rw [if_pos c2] at hz; exact absurd hz (by decide)
    · rw [if_neg c2] at hz ⊢
      by_cases c3 : e.time < (seatOf l e.router).time ∨ e.time ≤ h
      · rw [if_pos c3] at hz; exact absurd hz (by decide)
      · rw [if_neg c3] at hz ⊢
        by_cases c4 : decide (e.kind = 1) = (seatOf l e.router).up
        · rw [if_pos c4] at hz; exact absurd hz (by decide)
        · rw [if_neg c4] at hz ⊢
          by_cases c5 : isIn l e.router = false ∧ l.length = 64
          · rw [if_pos c5]; exact .inr rfl
          · rw [if_neg c5]; exact .inl rfl
theorem next_apart {l m : List St} {e : Ev} {h : Int} (hl : okL l = true) (h1 : isIn m e.router = isIn l e.router) (h2 : seatOf m e.router = seatOf l e.router) (hz : (nextL m e h).2 = 0) : (nextL l e h).2 = 0 ∨ (nextL l e h).2 = 8 := by
  obtain ⟨a1, a2⟩ := Ord.next_zero hz
  obtain ⟨o1, o2, o3, o4⟩ := Ord.ask_ok a1
  have hask : askL l e h = 0 := by
    unfold askL
    rw [hl, o2]
    simp only [Bool.and_self, if_true]
    rw [if_neg (by omega)]
  have hm := mis_apart h1 h2 a2
  unfold nextL
  rw [if_pos hask]
  rcases hm with g | g
  · rw [if_pos g]; exact .inl rfl
  · rw [if_neg (by rw [g]; decide)]; exact .inr g
/-- what becomes of a net by an event that another net, alike at its router, takes -/
theorem take_like {n m : NetT} {e : Ev} {h : Int} (hn : okN n = true) (hm : okN m = true) (h1 : isIn m.seats e.router = isIn n.seats e.router) (h2 : seatOf m.seats e.router = seatOf n.seats e.router) (h3 : ∀ R : Ro, R.id = e.router → (R ∈ n.ros ↔ R ∈ m.ros)) (hz : (takeN m e h).2 = 0) (h8 : ¬ (takeN n e h).2 = 8) : (takeN n e h).2 = 0 ∧ (applyRo (wasN n.ros e.router) e).1 = (applyRo (wasN m.ros e.router) e).1 := by
  obtain ⟨t1, t2, t3, t4⟩ := take_zero hz
  have hw := was_eq (ros_up hn) (ros_up hm) h3
  have hnx := next_apart (okN_parts hn).1 h1 h2 t1
  rw [← hw] at t2
  refine ⟨?_, by rw [hw]⟩
  unfold takeN at h8 ⊢
  by_cases c1 : (nextL n.seats e h).2 = 0
  · rw [if_pos c1, if_pos t2] at h8 ⊢
    by_cases c3 : 1024 < sizeN (putN n.ros e.router (applyRo (wasN n.ros e.router) e).1)
    · rw [if_pos c3] at h8; exact absurd rfl h8
    · rw [if_neg c3]
  · rw [if_neg c1] at h8
    rcases hnx with g | g
    · exact absurd g c1
    · exact absurd g h8
end Go.Proofs.Ytkjhnefbcnnjlaa.Nt
namespace Go.Proofs.Ytkjhnefbcnnjlaa.Nt
open Go.Proofs.Ytkjhnefbcnnjlaa.Msg (Ev okE)
open Go.Proofs.Ytkjhnefbcnnjlaa.Fib
open Go.Proofs.Ytkjhnefbcnnjlaa.Ord (St nextL)
theorem all_shift (h : Int) : ∀ (es : List Ev) (l : List St) (k d : Nat), Ord.allL h l es (k + d) = ((Ord.allL h l es k).1, (Ord.allL h l es k).2.1 + d, (Ord.allL h l es k).2.2) := by
  intro es
  induction es with
  | nil => intro l k d; rfl
  | cons e es ih =>
    intro l k d
    show (if (nextL l e h).2 = 0 then Ord.allL h (nextL l e h).1 es (k + d + 1) else (l, k + d, (nextL l e h).2)) = ((if (nextL l e h).2 = 0 then Ord.allL h (nextL l e h).1 es (k + 1) else (l, k, (nextL l e h).2)).1, (if (nextL l e h).2 = 0 then Ord.allL h (nextL l e h).1 es (k + 1) else (l, k, (nextL l e h).2)).2.1 + d, (if (nextL l e h).2 = 0 then Ord.allL h (nextL l e h).1 es (k + 1) else (l, k, (nextL l e h).2)).2.2)
    by_cases hz : (nextL l e h).2 = 0
    · rw [if_pos hz, if_pos hz, show k + d + 1 = k + 1 + d by omega, ih]
    · rw [if_neg hz, if_neg hz]
/-- as many as a net takes, its seats take, too -/
theorem all_seats (h : Int) : ∀ (es : List Ev) (n : NetT) (k : Nat), okN n = true → ∃ j, j ≤ es.length ∧ (allF h n es k).2.1 = k + j ∧ okN (allF h n es k).1 = true ∧ Ord.allL h n.seats (es.take j) 0 = ((allF h n es k).1.seats, j, 0) ∧ ∀ e ∈ es.take j, okE e = true ∧ -1 ≤ h ∧ h ≤ 1099511627776 := by
  intro es
  induction es with
  | nil => intro n k hok; exact ⟨0, Nat.le_refl _, rfl, hok, rfl, fun e he => by cases he⟩
  | cons e es ih =>
    intro n k hok
    by_cases hz : (takeN n e h).2 = 0
    · obtain ⟨t1, t2, t3, t4⟩ := take_zero hz
      obtain ⟨j, h1, h2, h3, h4, h5⟩ := ih (takeN n e h).1 (k + 1) (take_right hok hz)
      have hall : allF h n (e :: es) k = allF h (takeN n e h).1 es (k + 1) := by
        show (if (takeN n e h).2 = 0 then allF h (takeN n e h).1 es (k + 1) else (n, k, (takeN n e h).2)) = _
        rw [if_pos hz]
      rw [hall]
      have hse : (takeN n e h).1.seats = (nextL n.seats e h).1 := by rw [t4]
      refine ⟨j + 1, by simp only [List.length_cons]; omega, by rw [h2]; omega, h3, ?_, fun x hx => ?_⟩
      · rw [List.take_succ_cons]
        show (if (nextL n.seats e h).2 = 0 then Ord.allL h (nextL n.seats e h).1 (es.take j) (0 + 1) else (n.seats, 0, (nextL n.seats e h).2)) = _
        rw [if_pos t1, ← hse, all_shift h (es.take j) (takeN n e h).1.seats 0 1, h4]
      · rw [List.take_succ_cons] at hx
        rcases List.mem_cons.1 hx with rfl | hx
        · exact (next_okE t1).2
        · exact h5 x hx
    · have hall : allF h n (e :: es) k = (n, k, (takeN n e h).2) := by
        show (if (takeN n e h).2 = 0 then allF h (takeN n e h).1 es (k + 1) else (n, k, (takeN n e h).2)) = _
        rw [if_neg hz]
      rw [hall]
      exact ⟨0, Nat.zero_le _, rfl, hok, rfl, fun e he => by cases he⟩
end Go.Proofs.Ytkjhnefbcnnjlaa.Nt
