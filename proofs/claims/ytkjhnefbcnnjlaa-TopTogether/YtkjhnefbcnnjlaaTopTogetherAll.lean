/- For all events: spoortop.TopTogether returns true, and changes nothing that was there. No condition. -/
import Derived.Test.YtkjhnefbcnnjlaaTv35
import Derived.Test.YtkjhnefbcnnjlaaRows
import Derived.Test.YtkjhnefbcnnjlaaTv28
import Derived.Test.YtkjhnefbcnnjlaaTv29
import Derived.Test.YtkjhnefbcnnjlaaTv33
import Derived.Test.YtkjhnefbcnnjlaaTv06
import Derived.Test.YtkjhnefbcnnjlaaTv01
import Derived.ProofKit
import Derived.OpenShut
import Derived.SizedLaws
import Derived.Test.YtkjhnefbcnnjlaaTv26
import Derived.Deep.Matrix
import Derived.Deep.Strs
import Derived.Deep.SlicePairs
import Derived.Test.YtkjhnefbcnnjlaaTv34
import Derived.BigQuiet
import Derived.ShutString
set_option linter.unusedVariables false
namespace Go.Proofs.Ytkjhnefbcnnjlaa
namespace topTogether
open Go.ChangeShapes Go.WideShapes Go.ChangeAt Go.RowKit
open Go.Proofs.Ytkjhnefbcnnjlaa.Lk (HasLks HasRow HasLks.keep)
open Go.Proofs.Ytkjhnefbcnnjlaa.Tr (HasRts HasRts.keep)
open Go.Proofs.Ytkjhnefbcnnjlaa.Msg (Ev FitE evV evC)
open Go.Proofs.Ytkjhnefbcnnjlaa.Fib (Ro RoIs RoIsW makeRo applyRo FitRo fit_apply)
open Go.Proofs.Ytkjhnefbcnnjlaa.Nt
open Go.Proofs.Ytkjhnefbcnnjlaa.Tg
open Go.Proofs.Ytkjhnefbcnnjlaa.Ord (St HasSts HasSts.keep HasSts.cell HasEvs HasEvs.keep HasEvs.cell ofR st_neq st_guard)
open Go.Proofs.Ytkjhnefbcnnjlaa.Addr (RowAt below2 below_new RowAt.lt RowAt.cell RowAt.below RowAt.new RowAt.alloc RowAt.gkeep cells2 cells4 hiN loN Bl bl_ne wp_region_bl bl_call)
theorem own : ownKnob Try.prog.godebug = none := by kernel_rfl
theorem laidOut : laidOutB Try.prog = true := by kernel_rfl
attribute [-go_sem] Builtin.append_
def KB (Y W : World) : Prop := Below Y.heap.size Y W
theorem KB.keep {Y W W' : World} (h : KB Y W) (hb : Below W.heap.size W W') : KB Y W' := below2 (show Below Y.heap.size Y W from h) hb
theorem fit_roF (l : List Ev) : ∀ R : Ro, FitRo R → (∀ e ∈ l, FitE e) → FitRo (roF R l) := by
  induction l with
  | nil => intro R h _; exact h
  | cons e l ih => intro R h he; exact ih _ (fit_apply h (he e List.mem_cons_self)) (fun x hx => he x (List.mem_cons_of_mem _ hx))
theorem of_len (r : Int) (es : List Ev) (k : Nat) : (ofR r (es.take k)).length ≤ es.length := by
  unfold ofR
  exact Nat.le_trans (List.length_filter_le _ _) (by rw [List.length_take]; omega)
theorem sorted_take {S : List St} (es : List Ev) {k : Nat} (hk : k < S.length) : sortedF (S.take (k + 1)) es = sortedF (S.take k) es ++ ofR S[k].router es := by
  unfold sortedF
  rw [List.take_succ_eq_append_getElem hk, List.flatMap_append, List.flatMap_cons, List.flatMap_nil, List.append_nil]
theorem evs_eq (l : List Ev) : evs l = Ord.evCs l := rfl
theorem evs_has {W : World} {B : Nat} {v : Value} {l : List Ev} (h : W.ownsRow B 49 12 v l.length (evs l)) : HasEvs W v l := Ord.hasRow_own h
def AN (N : NetT) (j : Nat) (z : Int) (w : World) (e : Ending) (w' : World) : Prop := AllIs N j z w e w'
set_option maxHeartbeats 4000000 in
set_option maxRecDepth 20000 in
theorem walk_out (eo : Option Addr) (en ecap : Nat) (es : List Ev) (N : NetT) (j : Nat) (z : Int) (w : World) (hE : HasEvs w (.slice eo en ecap) es) (hj : j ≤ en) (hi : (en : Int) ≤ 9223372036854775807) (hz : ¬ z = 0 ∨ (z = 0 ∧ 100 < en))
    (cB : ∀ W : World, Calls Try.prog 4 #[] W fun e w' => e = .returned (.bool true) ∧ Below W.heap.size W w')
    (c1 : ∀ W : World, HasEvs W (.slice eo en ecap) es → Calls Try.prog 5 #[.agg #[.slice none 0 0, .slice none 0 0], .slice eo en ecap, .int .i64 (-1)] W (AllIs N j z W)) :
    Calls Try.prog 3 #[.slice eo en ecap] w fun e w' => e = .returned (.bool true) ∧ Below w.heap.size w w' := by
  have hB := Below.refl w.heap.size w
  have HEV : Hid (∀ W : World, Below w.heap.size w W → HasEvs W (.slice eo en ecap) es) := fun W hb => hE.keep hb
  clear hE
  have hjb : decide ((j : Int) ≤ (en : Int)) = true := decide_eq_true (by omega)
  have hji : (j : Int) ≤ (en : Int) := by omega
  go_enter Try.func3, Try.ntmps3
  go_wp2_with fail
  go_at_call 4; refine (cB _).mono ?_; rintro e w1 ⟨rfl, hb⟩
  replace hB := below2 hB hb
  clear hb
  go_wp2_with fail
  go_at_call 5; refine (c1 _ (HEV.out _ hB)).mono ?_; rintro e w2 ⟨o1, n1, m1, o2, n2, m2, rfl, hS, hL, hb⟩
  replace hB := below2 hB hb
  clear hb
  rcases hz with hz | ⟨rfl, hz⟩
  · have hzb : (z != 0) = true := bne_iff_ne.2 hz
    go_wp2_with fail
    go_ret
    exact ⟨rfl, by first | exact below_new hB _ | exact hB⟩
  · have h100 : (100 : Int) < (en : Int) := by omega
    go_wp2_with fail
    go_ret
    exact ⟨rfl, by first | exact below_new hB _ | exact hB⟩
set_option maxHeartbeats 64000000 in
set_option maxRecDepth 20000 in
theorem walk_in (eo : Option Addr) (en ecap : Nat) (es : List Ev) (N : NetT) (w : World) (hE : HasEvs w (.slice eo en ecap) es) (HEN : Hid (en = es.length)) (hen : (en : Int) ≤ 100) (HFE : Hid (∀ e ∈ es, FitE e)) (HT : Hid (InvT N es))
    (cB : ∀ W : World, Calls Try.prog 4 #[] W fun e w' => e = .returned (.bool true) ∧ Below W.heap.size W w')
    (c1 : ∀ W : World, HasEvs W (.slice eo en ecap) es → Calls Try.prog 5 #[.agg #[.slice none 0 0, .slice none 0 0], .slice eo en ecap, .int .i64 (-1)] W (AllIs N en 0 W))
    (c2 : ∀ (W : World) (v : Value), HasEvs W v (sortedF N.seats es) → Calls Try.prog 5 #[.agg #[.slice none 0 0, .slice none 0 0], v, .int .i64 (-1)] W (AllIs N en 0 W))
    (cM : ∀ (W : World) (id : Int), Calls Try.prog 6 #[.int .i64 id] W (RoIs (makeRo id).1 (makeRo id).2 W))
    (cA : ∀ (W : World) (R : Ro) (e : Ev) (a b : Value), FitRo R → FitE e → HasRts W a R.rts → HasLks W b R.lks → Calls Try.prog 7 #[.agg #[.int .i64 R.id, .bool R.up, a, b], evV e] W (RoIsW (applyRo R e).1 (applyRo R e).2 W))
    (cF : ∀ (W : World) (u v : Value) (id : Int), HasSts W u N.seats → HasRos W v N.ros → Calls Try.prog 8 #[.agg #[u, v], .int .i64 id] W (RoIs (findN N id).1 (findN N id).2 W))
    (cS : ∀ (W : World) (R : Ro) (a b c d : Value), HasRts W a R.rts → HasLks W b R.lks → HasRts W c R.rts → HasLks W d R.lks → Calls Try.prog 9 #[.agg #[.int .i64 R.id, .bool R.up, a, b], .agg #[.int .i64 R.id, .bool R.up, c, d]] W fun e w' => e = .returned (.bool true) ∧ Below W.heap.size W w') :
    Calls Try.prog 3 #[.slice eo en ecap] w fun e w' => e = .returned (.bool true) ∧ Below w.heap.size w w' := by
  have hB := Below.refl w.heap.size w
  have HEV : Hid (∀ W : World, Below w.heap.size w W → HasEvs W (.slice eo en ecap) es) := fun W hb => hE.keep hb
  have hni : (en : Int) ≤ 9223372036854775807 := by omega
  have h100 : ¬ (100 : Int) < (en : Int) := by omega
  have h100b : decide ((100 : Int) < (en : Int)) = false := decide_eq_false h100
  have hnn : ((en : Int) != (en : Int)) = false := by simp
  clear hE
  go_enter Try.func3, Try.ntmps3
  go_wp2_with fail
  go_at_call 4; refine (cB _).mono ?_; rintro e w1 ⟨rfl, hb⟩
  replace hB := below2 hB hb
  clear hb
  go_wp2_with fail
  go_at_call 5; refine (c1 _ (HEV.out _ hB)).mono ?_; rintro e w2 ⟨o1, n1, m1, o2, n2, m2, rfl, hS, hL, hb⟩
  replace hB := below2 hB hb
  clear hb
  obtain ⟨Y3, hY⟩ : ∃ Y, Y = (w2.alloc (.cells #[.slice o1 n1 m1, .slice o2 n2 m2] 27)) := ⟨_, rfl⟩
  have hbY : Below w2.heap.size w2 Y3 := by rw [hY]; exact below_new (Below.refl _ _) _
  have hle : w.heap.size ≤ w2.heap.size := hB.size
  obtain ⟨gn, hgn⟩ : ∃ g, g = w2.heap.size := ⟨_, rfl⟩
  have rn : RowAt Y3 gn [.slice o1 n1 m1, .slice o2 n2 m2] 27 := by
    have h := RowAt.new w2 [.slice o1 n1 m1, .slice o2 n2 m2] 27
    rw [hgn, hY]; exact h
  have len : w.heap.size ≤ gn := by omega
  replace hS := hS.keep hbY
  replace hL := hL.keep hbY
  replace hB := below2 hB hbY
  go_upto_region 4 with fail
  rw [← hY, ← hgn]
  clear hY hbY hle hgn
  clear cB c1
  have HS1 : Hid (n1 = N.seats.length) := by
    obtain ⟨_, _, q, _⟩ := Ord.HasRow.slice hS
    injection q with _ q _
  have HL1 : Hid (n2 = N.ros.length) := by
    obtain ⟨_, _, q, _⟩ := HasRos.slice hL
    injection q with _ q _
  have h64 : (n1 : Int) ≤ 64 := by have := ((Ord.okL_iff _).1 (okN_parts HT.out.ok).1).1; have := HS1.out; omega
  have h64r : (n2 : Int) ≤ 64 := by have := ros_len HT.out.ok; have := HL1.out; omega
  have HSY : Hid (∀ W : World, KB Y3 W → HasSts W (.slice o1 n1 m1) N.seats ∧ HasRos W (.slice o2 n2 m2) N.ros ∧ RowAt W gn [.slice o1 n1 m1, .slice o2 n2 m2] 27 ∧ Below w.heap.size w W) := fun W h => ⟨hS.keep h, hL.keep h, RowAt.below rn h, below2 hB h⟩
  have hK0 : KB Y3 Y3 := Below.refl _ _
  have HO0 : Hid ((Y3).ownsRow Y3.heap.size 49 12 (.slice none 0 0) (sortedF (N.seats.take 0) es).length (evs (sortedF (N.seats.take 0) es))) := World.ownsRow_nil _ _ _ _
  obtain ⟨n0, n1_, nf⟩ := cells2 rn
  clear hS hL hB len
  go_wp2_with fail
  clear n0 n1_ nf rn
  go_loopw [45, 6] (fun i v wr => ∃ k : Nat, k ≤ n1 ∧ i = .int .i64 k ∧ KB Y3 wr ∧ ∃ o m c, v = .slice o m c ∧ Hid (wr.ownsRow Y3.heap.size 49 12 (.slice o m c) (sortedF (N.seats.take k) es).length (evs (sortedF (N.seats.take k) es)))) (fun i _ _ => n1 - (Go.RowKit.intOf i).toNat)
  case atStart => exact ⟨0, by omega, rfl, hK0, none, 0, 0, rfl, HO0⟩
  case round =>
    obtain ⟨k, hk, rfl, hK, vo, vm, vc, rfl, HO⟩ := hrel
    clear hK0 HO0
    by_cases hlt : k < n1
    · have hkz : k < N.seats.length := by rw [← HS1.out]; exact hlt
      obtain ⟨b1, i1, rfl, hb1, x0, x1, x2, x3⟩ := HasSts.cell (HSY.out _ hK).1 k hkz
      obtain ⟨hid0, hsq0, hfn0⟩ := seat_own HT.out (List.getElem_mem hkz)
      have HST : Hid (∀ (j : Nat) (hj : j < es.length), (es[j].router = N.seats[k].router → (applyRo (roF (makeRo N.seats[k].router).1 (ofR N.seats[k].router (es.take j))) es[j]).2 = 0 ∧ (applyRo (roF (makeRo N.seats[k].router).1 (ofR N.seats[k].router (es.take j))) es[j]).1 = roF (makeRo N.seats[k].router).1 (ofR N.seats[k].router (es.take (j + 1))) ∧ ofR N.seats[k].router (es.take (j + 1)) = ofR N.seats[k].router (es.take j) ++ [es[j]]) ∧ (es[j].router ≠ N.seats[k].router → ofR N.seats[k].router (es.take (j + 1)) = ofR N.seats[k].router (es.take j))) := fun j hj => own_step HT.out hid0 j hj
      have HSN : Hid (sortedF (N.seats.take (k + 1)) es = sortedF (N.seats.take k) es ++ ofR N.seats[k].router es) := sorted_take es hkz
      have HDL : Hid ((sortedF (N.seats.take k) es).length ≤ 6400) := by
        have key : ∀ S : List St, (sortedF S es).length ≤ S.length * es.length := by
          intro S
          induction S with
          | nil => exact Nat.zero_le _
          | cons s S ih =>
            show (ofR s.router es ++ sortedF S es).length ≤ _
            rw [List.length_append, List.length_cons, Nat.succ_mul]
            have : (ofR s.router es).length ≤ es.length := List.length_filter_le _ _
            omega
        have h1 := key (N.seats.take k)
        have h2 : (N.seats.take k).length ≤ 64 := by rw [List.length_take]; have := HS1.out; omega
        have h3 : es.length ≤ 100 := by have := HEN.out; omega
        exact Nat.le_trans h1 (Nat.mul_le_mul h2 h3)
      obtain ⟨s, hs⟩ : ∃ s, s = N.seats[k] := ⟨_, rfl⟩
      rw [← hs] at x0 x1 x2 x3 hid0 hsq0 hfn0 HST HSN
      clear hs
      have HFN : Hid (findN N s.router = (roF (makeRo s.router).1 (ofR s.router es), 0)) := hfn0
      have HSQ : Hid ((ofR s.router (es.take en)).length = s.seq) := by show _ = _; rw [hsq0, HEN.out, List.take_length]
      have HFM : Hid (FitRo (makeRo s.router).1 ∧ (makeRo s.router).2 = 0 ∧ (makeRo s.router).1.rts = [] ∧ (makeRo s.router).1.lks = []) := by
        unfold makeRo
        rw [hid0]
        obtain ⟨q1, q2⟩ := (Fib.okId_iff _).1 hid0
        exact ⟨⟨⟨by show _ ≤ s.router; omega, by show s.router ≤ _; omega⟩, by simp, by simp⟩, rfl, rfl, rfl⟩
      clear hid0 hsq0 hfn0
      have hki : (k : Int) < (n1 : Int) := by omega
      obtain ⟨V8, hV⟩ : ∃ V, V = wr.alloc (.cells #[.int .i64 s.router, .int .u64 (s.seq : Int), .int .i64 s.time, .bool s.up] 33) := ⟨_, rfl⟩
      have hbV : Below wr.heap.size wr V8 := by rw [hV]; exact below_new (Below.refl _ _) _
      have r8 : RowAt V8 wr.heap.size [.int .i64 s.router, .int .u64 (s.seq : Int), .int .i64 s.time, .bool s.up] 33 := by rw [hV]; exact RowAt.new _ _ _
      have hvl : Hid (∀ b, (Value.slice vo vm vc).ownBlock = some b → b < wr.heap.size) := fun b e => (HO.out.lt b e).2
      have hwY : Y3.heap.size ≤ wr.heap.size := (show Below _ _ _ from hK).size
      go_upto_region 10 with fail
      rw [← hV]
      replace hK := hK.keep hbV
      have HO8 : Hid (V8.ownsRow Y3.heap.size 49 12 (.slice vo vm vc) (sortedF (N.seats.take k) es).length (evs (sortedF (N.seats.take k) es))) := Lk.own_below HO.out hbV
      clear hV hbV x0 x1 x2 x3 hb1 HO
      generalize wr.heap.size = g8 at r8 hvl hwY ⊢
      obtain ⟨y0, y1, y2, y3, yf⟩ := cells4 r8
      go_wp2_with fail
      clear y0 y1 y2 y3 yf
      go_at_call 6; refine (cM _ _).mono ?_; rintro e w3 ⟨p2, a2, c2_, p3, a3, c3_, rfl, hx, hy, hb3⟩
      rw [HFM.out.2.1]
      obtain ⟨V9, hV⟩ : ∃ V, V = w3.alloc (.cells #[.int .i64 (makeRo s.router).1.id, .bool (makeRo s.router).1.up, .slice p2 a2 c2_, .slice p3 a3 c3_] 37) := ⟨_, rfl⟩
      have hbV : Below w3.heap.size w3 V9 := by rw [hV]; exact below_new (Below.refl _ _) _
      have r9 : RowAt V9 w3.heap.size [.int .i64 (makeRo s.router).1.id, .bool (makeRo s.router).1.up, .slice p2 a2 c2_, .slice p3 a3 c3_] 37 := by rw [hV]; exact RowAt.new _ _ _
      have hg89 : g8 < w3.heap.size := RowAt.lt (RowAt.below r8 hb3)
      have hb39 := below2 hb3 hbV
      have HI0 : Hid (TgI Y3 V9 g8 w3.heap.size s (roF (makeRo s.router).1 (ofR s.router (es.take 0))) (.slice p2 a2 c2_) (.slice p3 a3 c3_) (.slice vo vm vc) (sortedF (N.seats.take k) es ++ ofR s.router (es.take 0))) := by
        have e0 : ofR s.router (es.take 0) = [] := rfl
        rw [e0, List.append_nil]
        have h1 := HFM.out.2.2
        refine ⟨hK.keep hb39, RowAt.below r8 hb39, r9, hx.keep hbV, hy.keep hbV, Lk.own_below HO8.out hb39, fun b e => ⟨by have := hvl.out b e; omega, by have := hvl.out b e; omega, fun h => ?_, fun h => ?_⟩, by omega, by omega⟩
        · have : (makeRo s.router).1.rts.length = 0 := by rw [h1.1]; rfl
          exact absurd h (by show ¬ 0 < (makeRo s.router).1.rts.length; omega)
        · have : (makeRo s.router).1.lks.length = 0 := by rw [h1.2]; rfl
          exact absurd h (by show ¬ 0 < (makeRo s.router).1.lks.length; omega)
      go_upto_region 11 with fail
      rw [← hV]
      clear hV hbV r9 hb3 hb39 hx hy r8 hK HO8 hvl hwY
      generalize w3.heap.size = g9 at HI0 hg89 ⊢
      go_wp2_with fail
      obtain ⟨wO, hwO⟩ : ∃ wO, wO = wr := ⟨_, rfl⟩
      clear hwO
      go_loopw [57, 6, 11] (fun i v c wr => ∃ j : Nat, j ≤ en ∧ i = .int .i64 j ∧ c = .int .u64 ((ofR s.router (es.take j)).length : Int) ∧ ∃ o m c p2 a2 c2 p3 a3 c3, v = .slice o m c ∧ Hid (TgI Y3 wr g8 g9 s (roF (makeRo s.router).1 (ofR s.router (es.take j))) (.slice p2 a2 c2) (.slice p3 a3 c3) (.slice o m c) (sortedF (N.seats.take k) es ++ ofR s.router (es.take j)))) (fun i _ _ _ => en - (Go.RowKit.intOf i).toNat)
      case atStart => exact ⟨0, by omega, rfl, rfl, _, _, _, _, _, _, _, _, _, rfl, HI0⟩
      case round =>
        obtain ⟨j, hj, rfl, rfl, qo, qm, qc, p2, a2, e2, p3, a3, e3, rfl, HI⟩ := hrel
        clear HI0
        by_cases hjt : j < en
        · have hjz : j < es.length := by rw [← HEN.out]; exact hjt
          obtain ⟨b2, i2, rfl, hb2, x0, x1, x2, x3, x4, x5, x6, x7, x8, x9, x10, x11⟩ := HasEvs.cell (HEV.out _ (HSY.out _ HI.out.bel).2.2.2) j hjz
          have HFEj : Hid (FitE es[j]) := HFE.out es[j] (List.getElem_mem hjz)
          have HSJ := HST.out j hjz
          have HFR : Hid (FitRo (roF (makeRo s.router).1 (ofR s.router (es.take j)))) := fit_roF _ _ HFM.out.1 (fun e he => HFE.out e (List.mem_of_mem_take (List.mem_filter.1 he).1))
          have hol : ((ofR s.router (es.take j)).length : Int) ≤ 100 := by have := of_len s.router es j; have := HEN.out; omega
          have HLL : Hid ((sortedF (N.seats.take k) es ++ ofR s.router (es.take j)).length ≤ 1000000) := by show _ ≤ _; rw [List.length_append]; have := HDL.out; omega
          obtain ⟨ev, hev⟩ : ∃ ev, ev = es[j] := ⟨_, rfl⟩
          rw [← hev] at x0 x1 x2 x3 x4 x5 x6 x7 x8 x9 x10 x11 HFEj HSJ
          clear hev
          have hji : (j : Int) < (en : Int) := by omega
          obtain ⟨V, hV⟩ : ∃ V, V = wr.alloc (.cells #[.int .u8 (ev.kind : Int), .int .i64 ev.router, .int .u64 (ev.seq : Int), .int .i64 ev.time, .bool ev.pf.six, .int .u64 (hiN ev.pf.n : Int), .int .u64 (loN ev.pf.n : Int), .int .i64 ev.pf.len, .int .u8 (ev.act.k : Int), .int .i64 ev.act.i, .int .i64 ev.iface, .int .i64 ev.peer] 49) := ⟨_, rfl⟩
          have hbV : Below wr.heap.size wr V := by rw [hV]; exact below_new (Below.refl _ _) _
          have rV : RowAt V wr.heap.size [.int .u8 (ev.kind : Int), .int .i64 ev.router, .int .u64 (ev.seq : Int), .int .i64 ev.time, .bool ev.pf.six, .int .u64 (hiN ev.pf.n : Int), .int .u64 (loN ev.pf.n : Int), .int .i64 ev.pf.len, .int .u8 (ev.act.k : Int), .int .i64 ev.act.i, .int .i64 ev.iface, .int .i64 ev.peer] 49 := by rw [hV]; exact RowAt.new _ _ _
          have HQ : Hid (∀ b, (Value.slice qo qm qc).ownBlock = some b → b ≠ wr.heap.size) := fun b e => Nat.ne_of_lt (HI.out.own.lt b e).2
          have HV : Hid (TgI Y3 V g8 g9 s (roF (makeRo s.router).1 (ofR s.router (es.take j))) (.slice p2 a2 e2) (.slice p3 a3 e3) (.slice qo qm qc) (sortedF (N.seats.take k) es ++ ofR s.router (es.take j))) := HI.out.below hbV
          clear HI
          go_upto_region 15 with fail
          rw [← hV]
          clear hV hbV x0 x1 x2 x3 x4 x5 x6 x7 x8 x9 x10 x11 hb2
          generalize wr.heap.size = gv at rV HQ ⊢
          obtain ⟨⟨y0, y1, y2, y3, y4, y5⟩, ⟨y6, y7, y8, y9, y10, y11⟩, yf⟩ := Msg.cells12' rV
          obtain ⟨t0, t1, t2, t3, tf⟩ := cells4 HV.out.r8
          by_cases he : ev.router = s.router
          · have heb : (ev.router != s.router) = false := by rw [he]; simp
            obtain ⟨hs1, hs2, hs3⟩ := HSJ.1 he
            clear he
            go_upto_region 16 with fail
            clear heb
            obtain ⟨o7, c7, W7, hrun, HA, hgr⟩ := HV.out.add ev HLL.out
            have rW : RowAt W7 gv [.int .u8 (ev.kind : Int), .int .i64 ev.router, .int .u64 (ev.seq : Int), .int .i64 ev.time, .bool ev.pf.six, .int .u64 (hiN ev.pf.n : Int), .int .u64 (loN ev.pf.n : Int), .int .i64 ev.pf.len, .int .u8 (ev.act.k : Int), .int .i64 ev.act.i, .int .i64 ev.iface, .int .i64 ev.peer] 49 := (rV.alloc _).gkeep hgr (fun e => HQ.out gv e.symm rfl)
            have HA7 : Hid (TgI Y3 W7 g8 g9 s (roF (makeRo s.router).1 (ofR s.router (es.take j))) (.slice p2 a2 e2) (.slice p3 a3 e3) (.slice o7 ((sortedF (N.seats.take k) es ++ ofR s.router (es.take j)).length + 1) c7) (sortedF (N.seats.take k) es ++ ofR s.router (es.take (j + 1)))) := by show TgI _ _ _ _ _ _ _ _ _ _; rw [hs3, ← List.append_assoc]; exact HA
            have HLN : Hid (((ofR s.router (es.take (j + 1))).length : Int) = ((ofR s.router (es.take j)).length : Int) + 1) := by show _ = _; rw [hs3, List.length_append]; simp
            have HR1 : Hid ((applyRo (roF (makeRo s.router).1 (ofR s.router (es.take j))) ev).1 = roF (makeRo s.router).1 (ofR s.router (es.take (j + 1))) ∧ (applyRo (roF (makeRo s.router).1 (ofR s.router (es.take j))) ev).2 = 0) := ⟨hs2, hs1⟩
            clear HA hgr HSJ hs1 hs2 hs3 HV
            unfold evC at hrun
            obtain ⟨q7, hq7⟩ : ∃ q, q = (sortedF (N.seats.take k) es ++ ofR s.router (es.take j)).length + 1 := ⟨_, rfl⟩
            rw [← hq7] at hrun HA7
            clear hq7
            go_upto_region 17 with fail
            clear y0 y1 y2 y3 y4 y5 y6 y7 y8 y9 y10 y11 yf t0 t1 t2 t3 tf hrun rV HQ
            obtain ⟨⟨y0, y1, y2, y3, y4, y5⟩, ⟨y6, y7, y8, y9, y10, y11⟩, yf⟩ := Msg.cells12' rW
            obtain ⟨t0, t1, t2, t3, tf⟩ := cells4 HA7.out.r9
            have ca := cA W7 _ ev _ _ HFR.out HFEj.out HA7.out.hx HA7.out.hy
            rw [HR1.out.1, HR1.out.2] at ca
            unfold evV evC at ca
            go_wp2_with fail
            go_at_call 7; refine ca.mono ?_; rintro x w5 ⟨u2, f2, k2, u3, f3, k3, rfl, hx5, hy5, hb5, hn2, hn3⟩
            clear y0 y1 y2 y3 y4 y5 y6 y7 y8 y9 y10 y11 yf t0 t1 t2 t3 tf ca rW
            obtain ⟨Q, hQ⟩ : ∃ Q, Q = w5.alloc (.cells #[.int .i64 (roF (makeRo s.router).1 (ofR s.router (es.take (j + 1)))).id, .bool (roF (makeRo s.router).1 (ofR s.router (es.take (j + 1)))).up, .slice u2 f2 k2, .slice u3 f3 k3] 37) := ⟨_, rfl⟩
            have hbQ : Below w5.heap.size w5 Q := by rw [hQ]; exact below_new (Below.refl _ _) _
            have rQ : RowAt Q w5.heap.size [.int .i64 (roF (makeRo s.router).1 (ofR s.router (es.take (j + 1)))).id, .bool (roF (makeRo s.router).1 (ofR s.router (es.take (j + 1)))).up, .slice u2 f2 k2, .slice u3 f3 k3] 37 := by rw [hQ]; exact RowAt.new _ _ _
            have HAQ : Hid (TgI Y3 Q g8 g9 s (roF (makeRo s.router).1 (ofR s.router (es.take j))) (.slice p2 a2 e2) (.slice p3 a3 e3) (.slice o7 q7 c7) (sortedF (N.seats.take k) es ++ ofR s.router (es.take (j + 1)))) := HA7.out.below (below2 hb5 hbQ)
            have HPUT := HAQ.out.put (hx5.keep hbQ) (hy5.keep hbQ) (fun b e => ⟨fun _ q => by have h1 := (HA7.out.own.lt b e).2; have h2 := hn2 b q; omega, fun _ q => by have h1 := (HA7.out.own.lt b e).2; have h2 := hn3 b q; omega⟩)
            go_upto_region 18 with fail
            rw [← hQ]
            clear hQ hbQ hb5 hx5 hy5 hn2 hn3 HA7
            generalize w5.heap.size = gq at rQ ⊢
            obtain ⟨u0, u1, u2_, u3_, uf⟩ := cells4 rQ
            obtain ⟨t0, t1, t2, t3, tf⟩ := cells4 HAQ.out.r9
            obtain ⟨Z, hZ⟩ : ∃ Z, Z = (((Q.setCell ⟨g9, 0, none⟩ (.int .i64 (roF (makeRo s.router).1 (ofR s.router (es.take (j + 1)))).id)).setCell ⟨g9, 1, none⟩ (.bool (roF (makeRo s.router).1 (ofR s.router (es.take (j + 1)))).up)).setCell ⟨g9, 2, none⟩ (.slice u2 f2 k2)).setCell ⟨g9, 3, none⟩ (.slice u3 f3 k3) := ⟨_, rfl⟩
            rw [← hZ] at HPUT
            have HP : Hid (TgI Y3 Z g8 g9 s (roF (makeRo s.router).1 (ofR s.router (es.take (j + 1)))) (.slice u2 f2 k2) (.slice u3 f3 k3) (.slice o7 q7 c7) (sortedF (N.seats.take k) es ++ ofR s.router (es.take (j + 1)))) := HPUT
            clear HPUT HAQ
            go_upto_region 21 with fail
            rw [← hZ]
            clear hZ u0 u1 u2_ u3_ uf t0 t1 t2 t3 tf rQ HR1 HFR HFEj
            have hol0 : (0 : Int) ≤ ((ofR s.router (es.take j)).length : Int) := by omega
            generalize ((ofR s.router (es.take j)).length : Int) = lj at hol hol0 HLN ⊢
            go_wp2_with fail
            go_roundw
            case rel => exact ⟨j + 1, by omega, by go_num, by rw [HLN.out], _, _, _, _, _, _, _, _, _, rfl, HP⟩
            case measure => simp [Go.RowKit.intOf]; omega
          · have heb : (ev.router != s.router) = true := bne_iff_ne.2 he
            have HN2 : Hid (TgI Y3 V g8 g9 s (roF (makeRo s.router).1 (ofR s.router (es.take (j + 1)))) (.slice p2 a2 e2) (.slice p3 a3 e3) (.slice qo qm qc) (sortedF (N.seats.take k) es ++ ofR s.router (es.take (j + 1)))) := by show TgI _ _ _ _ _ _ _ _ _ _; rw [HSJ.2 he]; exact HV.out
            have HLN : Hid (((ofR s.router (es.take (j + 1))).length : Int) = ((ofR s.router (es.take j)).length : Int)) := by show _ = _; rw [HSJ.2 he]
            clear HSJ HV HQ
            go_wp2_with fail
            go_roundw
            case rel => exact ⟨j + 1, by omega, by go_num, by rw [HLN.out], _, _, _, _, _, _, _, _, _, rfl, HN2⟩
            case measure => simp [Go.RowKit.intOf]; omega
        · have hjn : j = en := by omega
          subst hjn
          have hjd : decide ((j : Int) < (j : Int)) = false := decide_eq_false (by omega)
          have et : es.take j = es := by rw [HEN.out]; exact List.take_length
          have hsq := HSQ.out
          rw [et] at HI hsq
          rw [et, hsq]
          obtain ⟨hS9, hL9, rn9, hB9⟩ := HSY.out _ HI.out.bel
          have cf := cF wr _ _ s.router hS9 hL9
          rw [HFN.out] at cf
          obtain ⟨t0, t1, t2, t3, tf⟩ := cells4 HI.out.r8
          obtain ⟨z0, z1, zf⟩ := cells2 rn9
          clear hS9 hL9 rn9 hB9 et hsq
          go_wp2_with fail
          go_at_call 8; refine cf.mono ?_; rintro x w5 ⟨u2, f2, k2, u3, f3, k3, rfl, hx5, hy5, hb5⟩
          clear t0 t1 t2 t3 tf z0 z1 zf cf
          obtain ⟨Q, hQ⟩ : ∃ Q, Q = w5.alloc (.cells #[.int .i64 (roF (makeRo s.router).1 (ofR s.router es)).id, .bool (roF (makeRo s.router).1 (ofR s.router es)).up, .slice u2 f2 k2, .slice u3 f3 k3] 37) := ⟨_, rfl⟩
          have hbQ : Below w5.heap.size w5 Q := by rw [hQ]; exact below_new (Below.refl _ _) _
          have rQ : RowAt Q w5.heap.size [.int .i64 (roF (makeRo s.router).1 (ofR s.router es)).id, .bool (roF (makeRo s.router).1 (ofR s.router es)).up, .slice u2 f2 k2, .slice u3 f3 k3] 37 := by rw [hQ]; exact RowAt.new _ _ _
          have HQ := HI.out.below (below2 hb5 hbQ)
          have cs := cS Q (roF (makeRo s.router).1 (ofR s.router es)) _ _ _ _ HQ.hx HQ.hy (hx5.keep hbQ) (hy5.keep hbQ)
          go_upto_region 24 with fail
          rw [← hQ]
          clear hQ hbQ hb5 hx5 hy5 HI
          generalize w5.heap.size = gq at rQ ⊢
          obtain ⟨t0, t1, t2, t3, tf⟩ := cells4 HQ.r8
          obtain ⟨s0, s1, s2, s3, sf⟩ := cells4 HQ.r9
          obtain ⟨u0, u1, u2_, u3_, uf⟩ := cells4 rQ
          have hss : ((s.seq : Int) != (s.seq : Int)) = false := by simp
          have HOW := HQ.own
          have HKW : KB Y3 Q := HQ.bel
          clear HQ
          go_wp2_with fail
          go_at_call 9; refine cs.mono ?_; rintro x w6 ⟨rfl, hb6⟩
          have HO7 : Hid (w6.ownsRow Y3.heap.size 49 12 (.slice qo qm qc) (sortedF (N.seats.take (k + 1)) es).length (evs (sortedF (N.seats.take (k + 1)) es))) := by show World.ownsRow _ _ _ _ _ _ _; rw [HSN.out]; exact Lk.own_below HOW hb6
          have hK7 := HKW.keep hb6
          clear t0 t1 t2 t3 tf s0 s1 s2 s3 sf u0 u1 u2_ u3_ uf cs HOW HKW
          go_wp2_with fail
          go_roundw
          case rel => exact ⟨k + 1, by omega, by go_num, hK7, _, _, _, rfl, HO7⟩
          case measure => simp [Go.RowKit.intOf]; omega
    · have hkn : k = n1 := by omega
      subst hkn
      have hkd : decide ((k : Int) < (k : Int)) = false := decide_eq_false (by omega)
      have et : N.seats.take k = N.seats := by rw [HS1.out]; exact List.take_length
      rw [et] at HO
      have c2' := c2 wr _ (evs_has HO.out)
      clear et HO cM cA cF c2
      go_wp2_with fail
      go_at_call 5; refine c2'.mono ?_; rintro x w5 ⟨o4, n4, m4, o5, n5, m5, rfl, hS5, hL5, hb5⟩
      have hn5 : n5 = n2 := by
        obtain ⟨_, _, q, _⟩ := HasRos.slice hL5
        injection q with _ q _
        rw [HL1.out, q]
      have hn4 : n4 = k := by
        obtain ⟨_, _, q, _⟩ := Ord.HasRow.slice hS5
        injection q with _ q _
        rw [HS1.out, q]
      subst hn5 hn4
      obtain ⟨Q, hQ⟩ : ∃ Q, Q = w5.alloc (.cells #[.slice o4 n4 m4, .slice o5 n5 m5] 27) := ⟨_, rfl⟩
      have hbQ : Below w5.heap.size w5 Q := by rw [hQ]; exact below_new (Below.refl _ _) _
      have rQ : RowAt Q w5.heap.size [.slice o4 n4 m4, .slice o5 n5 m5] 27 := by rw [hQ]; exact RowAt.new _ _ _
      have hKQ := hK.keep (below2 hb5 hbQ)
      replace hS5 := hS5.keep hbQ
      replace hL5 := hL5.keep hbQ
      obtain ⟨hS9, hL9, rn9, hB9⟩ := HSY.out _ hKQ
      go_upto_region 28 with fail
      rw [← hQ]
      clear hQ hbQ hb5 hK hKQ c2' HSY
      generalize w5.heap.size = gq at rQ ⊢
      have h55 : ((n5 : Int) != (n5 : Int)) = false := by simp
      have HN45 : Hid (n4 = N.seats.length ∧ n5 = N.ros.length ∧ N.seats.length = N.ros.length) := ⟨HS1.out, HL1.out, (okN_parts HT.out.ok).2.1.symm⟩
      obtain ⟨t0, t1, tf⟩ := cells2 rQ
      obtain ⟨z0, z1, zf⟩ := cells2 rn9
      go_wp2_with fail
      clear t0 t1 tf z0 z1 zf
      obtain ⟨wB, hwB⟩ : ∃ wB, wB = wr := ⟨_, rfl⟩
      clear hwB
      go_loopw [141] (fun i wr => ∃ j : Nat, j ≤ n5 ∧ i = .int .i64 j ∧ Below Q.heap.size Q wr) (fun i _ => n5 - (Go.RowKit.intOf i).toNat)
      case atStart => exact ⟨0, by omega, rfl, Below.refl _ _⟩
      case round =>
        obtain ⟨j, hj, rfl, hbl⟩ := hrel
        by_cases hjt : j < n5
        · have hj1 : j < N.ros.length := by rw [← HN45.out.2.1]; exact hjt
          have hj2 : j < N.seats.length := by have := HN45.out.2.2; omega
          have hj4 : j < n4 := by rw [HN45.out.1]; exact hj2
          obtain ⟨b1, i1, q1, r1, q2, r2, rfl, hb1, x0, x1, x2, x3, xr, xl⟩ := HasRos.cell (hL5.keep hbl) j hj1
          obtain ⟨b2, i2, q3, r3, q4, r4, rfl, hb2, y0, y1, y2, y3, yr, yl⟩ := HasRos.cell (hL9.keep hbl) j hj1
          obtain ⟨b3, i3, rfl, hb3, a0, a1, a2, a3⟩ := HasSts.cell (hS5.keep hbl) j hj2
          obtain ⟨b4, i4, rfl, hb4, d0, d1, d2, d3⟩ := HasSts.cell (hS9.keep hbl) j hj2
          have hB := below2 hB9 hbl
          have hsn := st_neq N.seats[j].router (N.seats[j].seq : Int) N.seats[j].time N.seats[j].up
          have hsg := st_guard
          generalize N.ros[j] = R at *
          generalize N.seats[j] = s at *
          obtain ⟨id, up, rts, lks⟩ := R
          simp only at x0 x1 x2 x3 xr xl y0 y1 y2 y3 yr yl
          generalize rts.length = l1 at *
          generalize lks.length = l2 at *
          have hji : (j : Int) < (n5 : Int) := by omega
          have hji4 : (j : Int) < (n4 : Int) := by omega
          have rQ1 := RowAt.below rQ hbl
          have rn1 := RowAt.below rn9 hbl
          have D1 : ∀ p : Bl wr, Calls Try.prog 9 #[.agg #[.int .i64 id, .bool up, .slice q1 l1 r1, .slice q2 l2 r2], .agg #[.int .i64 id, .bool up, .slice q3 l1 r3, .slice q4 l2 r4]] p.W fun e w' => e = .returned (.bool true) ∧ Below p.W.heap.size p.W w' := fun p => cS p.W ⟨id, up, rts, lks⟩ _ _ _ _ (xr.keep p.h) (xl.keep p.h) (yr.keep p.h) (yl.keep p.h)
          have X0 : ∀ p : Bl wr, p.W.cell? ⟨b1, i1 + j * 4, none⟩ = some (.int .i64 id) := fun p => (p.h.cell hb1).trans x0
          have X1 : ∀ p : Bl wr, p.W.cell? ⟨b1, i1 + j * 4 + 1, none⟩ = some (.bool up) := fun p => (p.h.cell hb1).trans x1
          have X2 : ∀ p : Bl wr, p.W.cell? ⟨b1, i1 + j * 4 + 2, none⟩ = some (.slice q1 l1 r1) := fun p => (p.h.cell hb1).trans x2
          have X3 : ∀ p : Bl wr, p.W.cell? ⟨b1, i1 + j * 4 + 3, none⟩ = some (.slice q2 l2 r2) := fun p => (p.h.cell hb1).trans x3
          have Y0 : ∀ p : Bl wr, p.W.cell? ⟨b2, i2 + j * 4, none⟩ = some (.int .i64 id) := fun p => (p.h.cell hb2).trans y0
          have Y1_ : ∀ p : Bl wr, p.W.cell? ⟨b2, i2 + j * 4 + 1, none⟩ = some (.bool up) := fun p => (p.h.cell hb2).trans y1
          have Y2 : ∀ p : Bl wr, p.W.cell? ⟨b2, i2 + j * 4 + 2, none⟩ = some (.slice q3 l1 r3) := fun p => (p.h.cell hb2).trans y2
          have Y3 : ∀ p : Bl wr, p.W.cell? ⟨b2, i2 + j * 4 + 3, none⟩ = some (.slice q4 l2 r4) := fun p => (p.h.cell hb2).trans y3
          have A0 : ∀ p : Bl wr, p.W.cell? ⟨b3, i3 + j * 4, none⟩ = some (.int .i64 s.router) := fun p => (p.h.cell hb3).trans a0
          have A1 : ∀ p : Bl wr, p.W.cell? ⟨b3, i3 + j * 4 + 1, none⟩ = some (.int .u64 (s.seq : Int)) := fun p => (p.h.cell hb3).trans a1
          have A2 : ∀ p : Bl wr, p.W.cell? ⟨b3, i3 + j * 4 + 2, none⟩ = some (.int .i64 s.time) := fun p => (p.h.cell hb3).trans a2
          have A3 : ∀ p : Bl wr, p.W.cell? ⟨b3, i3 + j * 4 + 3, none⟩ = some (.bool s.up) := fun p => (p.h.cell hb3).trans a3
          have E0 : ∀ p : Bl wr, p.W.cell? ⟨b4, i4 + j * 4, none⟩ = some (.int .i64 s.router) := fun p => (p.h.cell hb4).trans d0
          have E1 : ∀ p : Bl wr, p.W.cell? ⟨b4, i4 + j * 4 + 1, none⟩ = some (.int .u64 (s.seq : Int)) := fun p => (p.h.cell hb4).trans d1
          have E2 : ∀ p : Bl wr, p.W.cell? ⟨b4, i4 + j * 4 + 2, none⟩ = some (.int .i64 s.time) := fun p => (p.h.cell hb4).trans d2
          have E3 : ∀ p : Bl wr, p.W.cell? ⟨b4, i4 + j * 4 + 3, none⟩ = some (.bool s.up) := fun p => (p.h.cell hb4).trans d3
          have Q0 : ∀ p : Bl wr, p.W.cell? ⟨gq, 0, none⟩ = some (.slice (some ⟨b3, i3, none⟩) n4 m4) := fun p => (RowAt.below rQ1 p.h).cell 0
          have Q1 : ∀ p : Bl wr, p.W.cell? ⟨gq, 1, none⟩ = some (.slice (some ⟨b1, i1, none⟩) n5 m5) := fun p => (RowAt.below rQ1 p.h).cell 1
          have M0 : ∀ p : Bl wr, p.W.cell? ⟨gn, 0, none⟩ = some (.slice (some ⟨b4, i4, none⟩) n4 m1) := fun p => (RowAt.below rn1 p.h).cell 0
          have M1 : ∀ p : Bl wr, p.W.cell? ⟨gn, 1, none⟩ = some (.slice (some ⟨b2, i2, none⟩) n5 m2) := fun p => (RowAt.below rn1 p.h).cell 1
          clear x0 x1 x2 x3 y0 y1 y2 y3 a0 a1 a2 a3 d0 d1 d2 d3 xr xl yr yl rQ1 rn1 hb1 hb2 hb3 hb4 rQ rn9 hS5 hL5 hS9 hL9 HN45 HT HS1 HL1
          go_upto_region 33 with fail
          haveI := bl_ne wr
          refine wp_region_bl (by kernel_rfl) (by kernel_rfl) ?_
          repeat (go_big_quiet_step (first | (go_at_call 9; with_reducible exact bl_call (D1 _))))
          refine wpQuiet_nil ?_
          intro wq hw'
          obtain ⟨⟨wz, hq⟩, hw2⟩ := hw'
          subst hw2
          have hbn := below2 hbl hq
          clear D1 X0 X1 X2 X3 Y0 Y1_ Y2 Y3 A0 A1 A2 A3 E0 E1 E2 E3 Q0 Q1 M0 M1
          go_wp2_with fail
          go_roundw
          case rel => exact ⟨j + 1, by omega, by go_num, hbn⟩
          case measure => simp [Go.RowKit.intOf]; omega
        · have hjn : j = n5 := by omega
          subst hjn
          have hjd : decide ((j : Int) < (j : Int)) = false := decide_eq_false (by omega)
          have hW := below2 hB9 hbl
          go_wp2_with fail
          go_ret
          exact ⟨rfl, hW⟩
theorem walk (v : Value) (es : List Ev) (w : World) (b0 : HasEvs w v es) (f0 : ∀ e ∈ es, FitE e) :
    Calls Try.prog 3 #[v] w fun e w' => e = .returned (.bool true) ∧ Below w.heap.size w w' := by
  obtain ⟨eo, ec, rfl, q1, q2⟩ := Ord.HasRow.slice b0
  have e0 : ∀ l, allN zeroN l (-1) = allF (-1) zeroN l 0 := fun l => by unfold allN; rw [show okN zeroN = true by decide]; rfl
  have fz : FitN zeroN := by
    constructor
    · intro s hs; simp [zeroN] at hs
    · intro R hR; simp [zeroN] at hR
  have c1 := fun W hW => all_any zeroN es (-1) (.slice none 0 0) (.slice none 0 0) (.slice eo es.length ec) W (Ord.hasRow_nil _ 4) (hasRos_nil _) hW fz f0
  by_cases hc : (allN zeroN es (-1)).2.2 = 0 ∧ es.length ≤ 100
  · obtain ⟨t1, t2, t3⟩ := together (-1) es hc.1 hc.2
    have hfn : FitN (allN zeroN es (-1)).1 := by
      have key : ∀ (l : List Ev) (n : NetT) (k : Nat), okN n = true → FitN n → (∀ e ∈ l, FitE e) → FitN (allF (-1) n l k).1 := by
        intro l
        induction l with
        | nil => intro n k _ hf _; exact hf
        | cons e l ih =>
          intro n k hok hf he
          show FitN (if (takeN n e (-1)).2 = 0 then allF (-1) (takeN n e (-1)).1 l (k + 1) else (n, k, (takeN n e (-1)).2)).1
          by_cases hz : (takeN n e (-1)).2 = 0
          · rw [if_pos hz]
            exact ih _ _ (take_right hok hz) (fit_take hf hok (he e List.mem_cons_self)) (fun x hx => he x (List.mem_cons_of_mem _ hx))
          · rw [if_neg hz]
            exact hf
      rw [e0]
      exact key es zeroN 0 (by decide) fz f0
    have fs : ∀ e ∈ sortedF (allN zeroN es (-1)).1.seats es, FitE e := fun e he => by
      obtain ⟨s, _, hs⟩ := List.mem_flatMap.1 he
      exact f0 e (List.mem_filter.1 hs).1
    have c2 := fun W u hW => all_any zeroN (sortedF (allN zeroN es (-1)).1.seats es) (-1) (.slice none 0 0) (.slice none 0 0) u W (Ord.hasRow_nil _ 4) (hasRos_nil _) hW fz fs
    rw [t3] at c2
    rw [t2, hc.1] at c1
    exact walk_in eo _ ec es _ w b0 rfl (by omega) f0 t1 (fun W => Frame.begins_any W) c1 c2 (fun W id => Fib.make_any id W) (fun W R e a b h1 h2 h3 h4 => Fib.apply_new R e a b W h3 h4 h1 h2) (fun W u v id h1 h2 => findF_any _ id u v W h1 h2 hfn) (fun W R a b c d h1 h2 h3 h4 => sameR_any R a b c d W h1 h2 h3 h4)
  · obtain ⟨j, g1, g2, _⟩ := all_seats (-1) es zeroN 0 (by decide)
    rw [Nat.zero_add, ← e0] at g2
    refine walk_out eo _ ec es _ (allN zeroN es (-1)).2.1 (allN zeroN es (-1)).2.2 w b0 (by omega) (by omega) ?_ (fun W => Frame.begins_any W) c1
    by_cases hz : (allN zeroN es (-1)).2.2 = 0
    · exact .inr ⟨hz, by have := fun h => hc ⟨hz, h⟩; omega⟩
    · exact .inl hz

set_option maxRecDepth 100000 in
theorem lifted (os : Os) (started : os.Started) (H : Type) (enc : TypeId × Value → H) :
    ReturnsInHanded {} Try.checked os 3 .any (Rows.topTogetherSpec.pre6 enc Try.prog Try.f3 Rows.topTogetherRow.domain false) (Rows.topTogetherSpec.post enc Try.prog Try.f3 false true false false) := by
  refine returnsInHanded_of_change_sized (C := Try.checked) own started (by kernel_rfl) Try.func3
    (ChangeSpec.witness6 (enc := enc) (C := Try.checked) false ⟨#[], #[.slice none 0 0], []⟩ 8 (by kernel_rfl) (by kernel_rfl) (by kernel_rfl) (by kernel_rfl)) ?_
  intro W base args ds gs before hval0 hW _ hsz0 _
  have hsz : (DataW.weightsEach Try.prog (Try.f3.params.toList ++ Rows.topTogetherSpec.plain.varTypes Try.prog) (ds ++ gs)).all (· ≤ reachBytes) = true := hsz0
  clear hsz0
  have hval : ∀ (j : Nat) t v, Try.f3.params[j]? = some t → args[j]? = some v → Value.okWide Try.prog W .any base t v := hval0
  have hW' := hW
  obtain ⟨p, q, hA0, hV, rfl, hfz, hnd⟩ := hW
  have hA : DataW.TrodAll enc Try.prog W 0 (fun _ => true) true Try.f3.params.toList args.toList ds p := hA0
  rw [Try.params3] at hA hval hsz
  obtain ⟨v0, vs0, d0, ds0, p0, q0, hargs, rfl, rfl, h0, r0⟩ := trodAll_cons hA
  obtain ⟨rfl, rfl, rfl⟩ := trodAll_nil r0
  obtain rfl : args = #[v0] := by cases args; simp_all
  obtain ⟨rfl, rfl⟩ := trodVars_none hV
  obtain ⟨a0, len0, cap0, rfl⟩ := okWide_slice Try.underlying22 (hval 0 22 v0 rfl rfl)
  have k0 := h0
  have lt0 : ∀ x ∈ p0, x.block < W.heap.size := by obtain ⟨m, hm⟩ := k0; exact DataW.trod_lt m _ _ _ hm
  obtain ⟨fuel0, hf0⟩ := h0
  obtain ⟨z0, b0, f0⟩ := Ord.open_events hf0
  clear hA0 hval0
  refine (walk (.slice a0 len0 cap0) z0 W b0 f0).mono fun e W' ⟨he, bel⟩ => ?_
  subst he
  exact ⟨_, rfl, _, _, _, [], _, [], hW', trodAll_mk1 (shut_bool Try.underlying4 _), (trodAll_cons_mk (Below.trod laidOut (by kernel_rfl) (of_decide_eq_true (by kernel_rfl)) k0 bel lt0) trodAll_mk0), rfl, bel.frame _, fun h => by cases h⟩

theorem over : Rows.topTogetherRow.holds Try.pinned (OpenSpec.ofChange Rows.topTogetherSpec) :=
  OpenClaim.holds_of_wide 3 Try.f3 rfl rfl rfl rfl rfl rfl rfl ⟨rfl, rfl, rfl, rfl, rfl⟩ rfl rfl rfl rfl rfl (by kernel_rfl) Try.func3 (by kernel_rfl)
    (of_decide_eq_true (by kernel_rfl)) (by unfold Func.isWrapper; first | (rw [if_pos (by decide +kernel)]; kernel_rfl) | (rw [if_neg (by decide +kernel)]; exact ⟨rfl, rfl⟩))
    (fun os started H enc _ => lifted os started H enc)
end topTogether
theorem ttogether_holds : Rows.TopTogetherSaid := topTogether.over
#print axioms ttogether_holds
end Go.Proofs.Ytkjhnefbcnnjlaa
