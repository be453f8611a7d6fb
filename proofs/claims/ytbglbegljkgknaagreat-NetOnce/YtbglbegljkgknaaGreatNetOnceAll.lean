/- For all events and a horizon: spoorlaw18.NetOnce returns true, and changes nothing that was there. No condition. -/
import Derived.Test.YtbglbegljkgknaaGreatNq36
import Derived.Test.YtbglbegljkgknaaGreatNq35
import Derived.Test.YtbglbegljkgknaaGreatNq39
import Derived.Test.YtbglbegljkgknaaGreatRows
import Derived.Test.YtbglbegljkgknaaGreatNq41
import Derived.Test.YtbglbegljkgknaaGreatNq42
import Derived.ProofKit
import Derived.OpenShut
import Derived.ShutString
import Derived.SizedLaws
set_option linter.unusedVariables false
namespace Go.Proofs.YtbglbegljkgknaaGreat.Nt
open Go.Proofs.YtbglbegljkgknaaGreat.Msg (Ev Ac okE FitE)
open Go.Proofs.YtbglbegljkgknaaGreat.Fib
open Go.Proofs.YtbglbegljkgknaaGreat.Ord (St nextL okL mayL askL misL)
theorem all_shift (h : Int) : ∀ (es : List Ev) (l : List St) (k d : Nat), Ord.allL h l es (k + d) = ((Ord.allL h l es k).1, (Ord.allL h l es k).2.1 + d, (Ord.allL h l es k).2.2) := by
  intro es
  induction es with
  | nil => intro l k d; rfl
  | cons e es ih =>
    intro l k d
    show (if (nextL l e h).2 = 0 then Ord.allL h (nextL l e h).1 es (k + d + 1) else (l, k + d, (nextL l e h).2)) = ((if (nextL l e h).2 = 0 then Ord.allL h (nextL l e h).1 es (k + 1) else (l, k, (nextL l e h).2)).1, (if (nextL l e h).2 = 0 then Ord.allL h (nextL l e h).1 es (k + 1) else (l, k, (nextL l e h).2)).2.1 + d, (if (nextL l e h).2 = 0 then Ord.allL h (nextL l e h).1 es (k + 1) else (l, k, (nextL l e h).2)).2.2)
    by_cases hz : (nextL l e h).2 = 0
    · rw [if_pos hz, if_pos hz, show k + d + 1 = k + 1 + d by omega, ih]
    · rw [if_neg hz, if_neg hz]
/-- as many as a net takes, its seats take, too -/
theorem all_seats (h : Int) : ∀ (es : List Ev) (n : NetT) (k : Nat), okN n = true → ∃ j, j ≤ es.length ∧ (allF h n es k).2.1 = k + j ∧ okN (allF h n es k).1 = true ∧ Ord.allL h n.seats (es.take j) 0 = ((allF h n es k).1.seats, j, 0) ∧ ∀ e ∈ es.take j, okE e = true ∧ -1 ≤ h ∧ h ≤ 1099511627776 := by
  intro es
  induction es with
  | nil => intro n k hok; exact ⟨0, Nat.le_refl _, rfl, hok, rfl, fun e he => by cases he⟩
  | cons e es ih =>
    intro n k hok
    by_cases hz : (takeN n e h).2 = 0
    · obtain ⟨t1, t2, t3, t4⟩ := take_zero hz
      obtain ⟨j, h1, h2, h3, h4, h5⟩ := ih (takeN n e h).1 (k + 1) (take_right hok hz)
      have hall : allF h n (e :: es) k = allF h (takeN n e h).1 es (k + 1) := by
        show (if (takeN n e h).2 = 0 then allF h (takeN n e h).1 es (k + 1) else (n, k, (takeN n e h).2)) = _
        rw [if_pos hz]
      rw [hall]
      have hse : (takeN n e h).1.seats = (nextL n.seats e h).1 := by rw [t4]
      refine ⟨j + 1, by simp only [List.length_cons]; omega, by rw [h2]; omega, h3, ?_, fun x hx => ?_⟩
      · rw [List.take_succ_cons]
        show (if (nextL n.seats e h).2 = 0 then Ord.allL h (nextL n.seats e h).1 (es.take j) (0 + 1) else (n.seats, 0, (nextL n.seats e h).2)) = _
        rw [if_pos t1, ← hse, all_shift h (es.take j) (takeN n e h).1.seats 0 1, h4]
      · rw [List.take_succ_cons] at hx
        rcases List.mem_cons.1 hx with rfl | hx
        · exact (next_okE t1).2
        · exact h5 x hx
    · have hall : allF h n (e :: es) k = (n, k, (takeN n e h).2) := by
        show (if (takeN n e h).2 = 0 then allF h (takeN n e h).1 es (k + 1) else (n, k, (takeN n e h).2)) = _
        rw [if_neg hz]
      rw [hall]
      exact ⟨0, Nat.zero_le _, rfl, hok, rfl, fun e he => by cases he⟩
theorem once_net (h : Int) (es : List Ev) : ∃ j, j ≤ es.length ∧ (allN zeroN es h).2.1 = j ∧ okN (allN zeroN es h).1 = true ∧ ∀ e ∈ es.take j, ¬ (applyN (allN zeroN es h).1 e h).2 = 0 ∧ (applyN (allN zeroN es h).1 e h).1 = (allN zeroN es h).1 := by
  have h0 : okN zeroN = true := by decide
  have e0 : allN zeroN es h = allF h zeroN es 0 := by unfold allN; rw [h0]; rfl
  rw [e0]
  obtain ⟨j, h1, h2, h3, h4, h5⟩ := all_seats h es zeroN 0 h0
  rw [Nat.zero_add] at h2
  refine ⟨j, h1, h2, h3, fun e he => ?_⟩
  obtain ⟨j2, g1, g2, g3, _⟩ := Ord.once h (es.take j)
  have hzs : zeroN.seats = [] := rfl
  rw [hzs] at h4
  rw [h4] at g2 g3
  simp only at g2 g3
  obtain ⟨i, hi, rfl⟩ := List.getElem_of_mem he
  have hil : i < j := by rw [List.length_take] at hi; omega
  have hmay := (g3 i (by omega) hi).1
  generalize (allF h zeroN es 0).1 = n at *
  have hnx : ¬ (nextL n.seats (es.take j)[i] h).2 = 0 := by rw [Ord.next_may]; exact hmay
  obtain ⟨k1, k2, k3⟩ := h5 _ he
  have hask : askL n.seats (es.take j)[i] h = 0 := by
    unfold askL
    rw [(okN_parts h3).1, k1]
    simp only [Bool.and_self, if_true]
    rw [if_neg (by omega)]
  have hcode : (nextL n.seats (es.take j)[i] h).2 = misL n.seats (es.take j)[i] h := by
    unfold nextL
    rw [if_pos hask]
    split
    · rename_i hm; exact hm.symm
    · rfl
  have htk : takeN n (es.take j)[i] h = (n, (nextL n.seats (es.take j)[i] h).2) := by unfold takeN; rw [if_neg hnx]
  have hne : ¬ ((takeN n (es.take j)[i] h).2 = 2 ∨ (takeN n (es.take j)[i] h).2 = 1) := by
    rw [htk]
    simp only
    rw [hcode]
    unfold misL
    (repeat' split) <;> decide
  have hap : applyN n (es.take j)[i] h = (n, (nextL n.seats (es.take j)[i] h).2) := by
    unfold applyN
    rw [h3, if_pos rfl, if_neg hne, htk]
  rw [hap]
  exact ⟨hnx, rfl⟩
end Go.Proofs.YtbglbegljkgknaaGreat.Nt
namespace Go.Proofs.YtbglbegljkgknaaGreat
namespace netOnce
open Go.ChangeShapes Go.WideShapes Go.ChangeAt Go.RowKit
open Go.ChangeMaps (open_string shut_string)
open Go.Proofs.YtbglbegljkgknaaGreat.Lk (HasLks HasRow HasLks.keep hasRow_own)
open Go.Proofs.YtbglbegljkgknaaGreat.Tr (Rt HasRts HasRts.keep)
open Go.Proofs.YtbglbegljkgknaaGreat.Msg (Ev Ac okE FitE evV evC)
open Go.Proofs.YtbglbegljkgknaaGreat.Fib (Ro RoIs)
open Go.Proofs.YtbglbegljkgknaaGreat.Nt
open Go.Proofs.YtbglbegljkgknaaGreat.Ord (St HasSts HasSts.keep HasEvs HasEvs.keep nextL okL)
open Go.Proofs.YtbglbegljkgknaaGreat.Addr (RowAt below2 below_drew below_new bset RowAt.lt RowAt.cell RowAt.frozen RowAt.below RowAt.drew RowAt.new RowAt.alloc RowAt.set1 RowAt.gkeep gset grefl cells2 cells4 hiN loN)
theorem own : ownKnob Tryz.prog.godebug = none := by kernel_rfl
theorem laidOut : laidOutB Tryz.prog = true := by kernel_rfl
set_option maxHeartbeats 16000000 in
set_option maxRecDepth 20000 in
theorem walks (eo : Option Addr) (en ecap : Nat) (es : List Ev) (h : Int) (n : NetT) (j : Nat) (z : Int) (w : World) (hE : HasEvs w (.slice eo en ecap) es) (HEN : Hid (en = es.length)) (hcap : en ≤ ecap) (hmx : (ecap : Int) ≤ 9223372036854775807) (HFE : Hid (∀ e ∈ es, FitE e)) (HFN : Hid (FitN n)) (hj : j ≤ en)
    (HX : Hid (∀ e ∈ es.take j, ¬ (applyN n e h).2 = 0 ∧ (applyN n e h).1 = n))
    (c1 : ∀ W, HasEvs W (.slice eo en ecap) es → Calls Tryz.prog 12 #[.agg #[.slice none 0 0, .slice none 0 0], .slice eo en ecap, .int .i64 h] W (AllIs n j z W))
    (c2 : ∀ W u v, HasSts W u n.seats → HasRos W v n.ros → Calls Tryz.prog 15 #[.agg #[u, v]] W fun e w' => e = .returned (.int .i64 0) ∧ Below W.heap.size W w') :
    Calls Tryz.prog 7 #[.slice eo en ecap, .int .i64 h] w (BoolIs true w) := by
  have hB := Below.refl w.heap.size w
  go_enter Tryz.func7, Tryz.ntmps7
  go_upto_region 1 with fail
  go_wp2_with fail
  go_at_call 14; refine (lives_any _).mono ?_; rintro e w1 ⟨rfl, hb⟩
  replace hE := hE.keep hb
  replace hB := below2 hB hb
  clear hb
  go_wp2_with fail
  go_at_call 12; refine (c1 _ hE).mono ?_; rintro e w2 ⟨o1, n1, m1, o2, n2, m2, rfl, hS, hL, hb⟩
  replace hE := hE.keep hb
  replace hB := below2 hB hb
  clear hb
  obtain ⟨Y3, hY⟩ : ∃ Y, Y = (w2.alloc (.cells #[.slice o1 n1 m1, .slice o2 n2 m2] 25)) := ⟨_, rfl⟩
  have hbY : Below w2.heap.size w2 Y3 := by rw [hY]; exact below_new (Below.refl _ _) _
  have hle : w.heap.size ≤ w2.heap.size := hB.size
  obtain ⟨gn, hgn⟩ : ∃ g, g = w2.heap.size := ⟨_, rfl⟩
  have rn : RowAt Y3 gn [.slice o1 n1 m1, .slice o2 n2 m2] 25 := by
    have h := RowAt.new w2 [.slice o1 n1 m1, .slice o2 n2 m2] 25
    rw [hgn, hY]; exact h
  have len : w.heap.size ≤ gn := by omega
  replace hE := hE.keep hbY
  replace hS := hS.keep hbY
  replace hL := hL.keep hbY
  replace hB := below2 hB hbY
  go_upto_region 4 with fail
  rw [← hY, ← hgn]
  clear hY hbY hle hgn
  have hji : ¬ ((en : Int) < (j : Int)) := by omega
  have hjd : decide ((en : Int) < (j : Int)) = false := decide_eq_false hji
  obtain ⟨n0, n1, nf⟩ := cells2 rn
  go_wp2_with fail
  clear n0 n1 nf
  go_at_call 15; refine (c2 _ _ _ hS hL).mono ?_; rintro e w4 ⟨rfl, hb⟩
  replace rn := RowAt.below rn hb
  replace hE := hE.keep hb
  replace hS := hS.keep hb
  replace hL := hL.keep hb
  replace hB := below2 hB hb
  clear hb
  have hj0 : (0 : Int) ≤ (j : Int) := by omega
  have hjc : (j : Int) ≤ (ecap : Int) := by omega
  have hjn : (j : Int) ≤ (en : Int) := by omega
  have HEV : Hid (∀ W : World, Below w4.heap.size w4 W → HasEvs W (.slice eo en ecap) es) := fun W hb => hE.keep hb
  clear hE c1 c2
  go_wp2_with fail
  go_loopw [35] (fun i wr => ∃ k : Nat, k ≤ j ∧ i = .int .i64 k ∧ Hid (Below w4.heap.size w4 wr)) (fun i _ => j - (Go.RowKit.intOf i).toNat)
  case atStart => exact ⟨0, by omega, rfl, Below.refl _ _⟩
  case round =>
    obtain ⟨k, hk, rfl, HI⟩ := hrel
    have hbl := HI.out
    by_cases hlt : k < j
    · have hkz : k < es.length := by rw [← HEN.out]; omega
      obtain ⟨b1, i1, rfl, hb1, x0, x1, x2, x3, x4, x5, x6, x7, x8, x9, x10, x11⟩ := HasEvs.cell (HEV.out _ hbl) k hkz
      have fe := HFE.out es[k] (List.getElem_mem hkz)
      obtain ⟨HZ, HN⟩ := HX.out es[k] (List.mem_take_iff_getElem.2 ⟨k, by omega, rfl⟩)
      obtain ⟨ev, hev⟩ : ∃ ev, ev = es[k] := ⟨_, rfl⟩
      rw [← hev] at x0 x1 x2 x3 x4 x5 x6 x7 x8 x9 x10 x11 fe HZ HN
      clear hev
      have hki : (k : Int) < (j : Int) := by omega
      obtain ⟨V, hV⟩ : ∃ V, V = wr.alloc (.cells #[.int .u8 (ev.kind : Int), .int .i64 ev.router, .int .u64 (ev.seq : Int), .int .i64 ev.time, .bool ev.pf.six, .int .u64 (hiN ev.pf.n : Int), .int .u64 (loN ev.pf.n : Int), .int .i64 ev.pf.len, .int .u8 (ev.act.k : Int), .int .i64 ev.act.i, .int .i64 ev.iface, .int .i64 ev.peer] 38) := ⟨_, rfl⟩
      have hbV : Below wr.heap.size wr V := by rw [hV]; exact below_new (Below.refl _ _) _
      have rV : RowAt V wr.heap.size [.int .u8 (ev.kind : Int), .int .i64 ev.router, .int .u64 (ev.seq : Int), .int .i64 ev.time, .bool ev.pf.six, .int .u64 (hiN ev.pf.n : Int), .int .u64 (loN ev.pf.n : Int), .int .i64 ev.pf.len, .int .u8 (ev.act.k : Int), .int .i64 ev.act.i, .int .i64 ev.iface, .int .i64 ev.peer] 38 := by rw [hV]; exact RowAt.new _ _ _
      go_upto_region 9 with fail
      rw [← hV]
      have hbn : Below w4.heap.size w4 V := below2 hbl hbV
      have ca := apply_any n ev h _ _ V (hS.keep hbn) (hL.keep hbn) HFN.out fe
      rw [HN] at ca
      unfold evV evC at ca
      generalize (applyN n ev h).2 = z2 at ca HZ
      clear hV hbV x0 x1 x2 x3 x4 x5 x6 x7 x8 x9 x10 x11 hb1 fe HN
      generalize wr.heap.size = ge at rV ⊢
      obtain ⟨⟨y0, y1, y2, y3, y4, y5⟩, ⟨y6, y7, y8, y9, y10, y11⟩, yf⟩ := Msg.cells12' rV
      obtain ⟨t0, t1, tf⟩ := cells2 (RowAt.below rn hbn)
      go_wp2_with fail
      go_at_call 9; refine ca.mono ?_; rintro x w9 ⟨p1, q1, s1, p2, q2, s2, rfl, hS2, hL2, hb9⟩
      clear y0 y1 y2 y3 y4 y5 y6 y7 y8 y9 y10 y11 yf ca t0 t1 tf rV
      have hbm : Below w4.heap.size w4 w9 := below2 hbn hb9
      obtain ⟨U, hU⟩ : ∃ U, U = w9.alloc (.cells #[.slice p1 q1 s1, .slice p2 q2 s2] 25) := ⟨_, rfl⟩
      have hbU : Below w9.heap.size w9 U := by rw [hU]; exact below_new (Below.refl _ _) _
      have rU : RowAt U w9.heap.size [.slice p1 q1 s1, .slice p2 q2 s2] 25 := by rw [hU]; exact RowAt.new _ _ _
      go_upto_region 10 with fail
      rw [← hU]
      have hbu : Below w4.heap.size w4 U := below2 hbm hbU
      have cs := same_any n _ _ _ _ U (hS2.keep hbU) (hL2.keep hbU) (hS.keep hbu) (hL.keep hbu)
      clear hU hbU hS2 hL2 hb9
      generalize w9.heap.size = gu at rU ⊢
      have hz2 : (z2 == 0) = false := beq_eq_false_iff_ne.2 HZ
      obtain ⟨u0, u1, uf⟩ := cells2 rU
      obtain ⟨t0, t1, tf⟩ := cells2 (RowAt.below rn hbu)
      go_wp2_with fail
      go_at_call 11; refine cs.mono ?_; rintro x w10 ⟨rfl, hb10⟩
      have hW := below2 hbu hb10
      clear u0 u1 uf t0 t1 tf cs rU
      go_wp2_with fail
      go_roundw
      case rel => exact ⟨k + 1, by omega, by go_num, hW⟩
      case measure => simp [Go.RowKit.intOf]; omega
    · have hkn2 : k = j := by omega
      subst hkn2
      have hkd : decide ((k : Int) < (k : Int)) = false := decide_eq_false (by omega)
      have hW := below2 hB hbl
      go_wp2_with fail
      go_ret
      exact ⟨rfl, hW⟩
theorem fit_all (h : Int) : ∀ (es : List Ev) (n : NetT) (k : Nat), okN n = true → FitN n → (∀ e ∈ es, FitE e) → FitN (allF h n es k).1 := by
  intro es
  induction es with
  | nil => intro n k _ hf _; exact hf
  | cons e es ih =>
    intro n k hok hf he
    show FitN (if (takeN n e h).2 = 0 then allF h (takeN n e h).1 es (k + 1) else (n, k, (takeN n e h).2)).1
    by_cases hz : (takeN n e h).2 = 0
    · rw [if_pos hz]
      exact ih _ _ (take_right hok hz) (fit_take hf hok (he e List.mem_cons_self)) (fun x hx => he x (List.mem_cons_of_mem _ hx))
    · rw [if_neg hz]
      exact hf
theorem walk (v : Value) (es : List Ev) (h : Int) (w : World) (b0 : HasEvs w v es) (f0 : ∀ e ∈ es, FitE e) (b1 : -9223372036854775808 ≤ h ∧ h ≤ 9223372036854775807) :
    Calls Tryz.prog 7 #[v, .int .i64 h] w fun e w' => e = .returned (.bool true) ∧ Below w.heap.size w w' := by
  obtain ⟨eo, ec, rfl, q1, q2⟩ := Ord.HasRow.slice b0
  obtain ⟨j, h1, h2, h3, h4⟩ := once_net h es
  have e0 : allN zeroN es h = allF h zeroN es 0 := by unfold allN; rw [show okN zeroN = true by decide]; rfl
  have hfn : FitN (allN zeroN es h).1 := by rw [e0]; exact fit_all h es zeroN 0 (by decide) fitz f0
  have c1 := fun W hW => all_any zeroN es h (.slice none 0 0) (.slice none 0 0) (.slice eo es.length ec) W (Ord.hasRow_nil _ 4) (hasRos_nil _) hW fitz f0
  rw [h2] at c1
  have c2 := fun W u v h1 h2 => Nt.check_any (allN zeroN es h).1 u v W h1 h2 hfn.ros
  rw [show checkN (allN zeroN es h).1 = 0 by unfold checkN; rw [h3]; rfl] at c2
  exact walks eo _ ec es h (allN zeroN es h).1 j (allN zeroN es h).2.2 w b0 rfl q1 (by omega) f0 hfn h1 h4 c1 c2

set_option maxRecDepth 100000 in
theorem lifted (os : Os) (started : os.Started) (H : Type) (enc : TypeId × Value → H) :
    ReturnsInHanded {} Tryz.checked os 7 .any (Rows.netOnceSpec.pre6 enc Tryz.prog Tryz.f7 Rows.netOnceRow.domain false) (Rows.netOnceSpec.post enc Tryz.prog Tryz.f7 false true false false) := by
  refine returnsInHanded_of_change_sized (C := Tryz.checked) own started (by kernel_rfl) Tryz.func7
    (ChangeSpec.witness6 (enc := enc) (C := Tryz.checked) false ⟨#[], #[.slice none 0 0, .int .i64 0], []⟩ 8 (by kernel_rfl) (by kernel_rfl) (by kernel_rfl) (by kernel_rfl)) ?_
  intro W base args ds gs before hval0 hW _ hsz0 _
  have hsz : (DataW.weightsEach Tryz.prog (Tryz.f7.params.toList ++ Rows.netOnceSpec.plain.varTypes Tryz.prog) (ds ++ gs)).all (· ≤ reachBytes) = true := hsz0
  clear hsz0
  have hval : ∀ (j : Nat) t v, Tryz.f7.params[j]? = some t → args[j]? = some v → Value.okWide Tryz.prog W .any base t v := hval0
  have hW' := hW
  obtain ⟨p, q, hA0, hV, rfl, hfz, hnd⟩ := hW
  have hA : DataW.TrodAll enc Tryz.prog W 0 (fun _ => true) true Tryz.f7.params.toList args.toList ds p := hA0
  rw [Tryz.params7] at hA hval hsz
  obtain ⟨v0, vs0, d0, ds0, p0, q0, hargs, rfl, rfl, h0, r0⟩ := trodAll_cons hA
  obtain ⟨v1, vs1, d1, ds1, p1, q1, rfl, rfl, rfl, h1, r1⟩ := trodAll_cons r0
  obtain ⟨rfl, rfl, rfl⟩ := trodAll_nil r1
  obtain rfl : args = #[v0, v1] := by cases args; simp_all
  obtain ⟨rfl, rfl⟩ := trodVars_none hV
  obtain ⟨a0, len0, cap0, rfl⟩ := okWide_slice Tryz.underlying26 (hval 0 26 v0 rfl rfl)
  have k0 := h0
  have lt0 : ∀ x ∈ p0, x.block < W.heap.size := by obtain ⟨m, hm⟩ := k0; exact DataW.trod_lt m _ _ _ hm
  obtain ⟨fuel0, hf0⟩ := h0
  obtain ⟨z0, b0, f0⟩ := Ord.open_events hf0
  obtain ⟨a1, rfl, rfl, rfl, w1⟩ := open_int Tryz.underlying2 (hval 1 2 v1 rfl rfl) h1
  have b1 : -9223372036854775808 ≤ a1 ∧ a1 ≤ 9223372036854775807 := by simpa [Lit.wf, IntKind.min, IntKind.max, IntKind.signed, IntKind.bits] using w1
  clear hA0 hval0
  refine (walk (.slice a0 len0 cap0) z0 a1 W b0 f0 b1).mono fun e W' ⟨he, bel⟩ => ?_
  subst he
  exact ⟨_, rfl, _, _, _, [], _, [], hW', trodAll_mk1 (shut_bool Tryz.underlying4 _), (trodAll_cons_mk (Below.trod laidOut (by kernel_rfl) (of_decide_eq_true (by kernel_rfl)) k0 bel lt0) (trodAll_cons_mk (shut_int Tryz.underlying2 w1) trodAll_mk0)), rfl, bel.frame _, fun h => by cases h⟩

theorem over : Rows.netOnceRow.holds Tryz.pinned (OpenSpec.ofChange Rows.netOnceSpec) :=
  OpenClaim.holds_of_wide 7 Tryz.f7 rfl rfl rfl rfl rfl rfl rfl ⟨rfl, rfl, rfl, rfl, rfl⟩ rfl rfl rfl rfl rfl (by kernel_rfl) Tryz.func7 (by kernel_rfl)
    (of_decide_eq_true (by kernel_rfl)) (by unfold Func.isWrapper; first | (rw [if_pos (by decide +kernel)]; kernel_rfl) | (rw [if_neg (by decide +kernel)]; exact ⟨rfl, rfl⟩))
    (fun os started H enc _ => lifted os started H enc)
end netOnce
theorem nonce_holds : Rows.NetOnceSaid := netOnce.over
#print axioms nonce_holds
end Go.Proofs.YtbglbegljkgknaaGreat
