/- For all nets, an event and a horizon: spoorlaw18.NetRight returns true, and changes nothing that was there. No condition. -/
import Derived.Test.YtbglbegljkgknaaGreatNq42
import Derived.Test.YtbglbegljkgknaaGreatNq16
import Derived.Test.YtbglbegljkgknaaGreatNq36
import Derived.Test.YtbglbegljkgknaaGreatNq39
import Derived.Test.YtbglbegljkgknaaGreatRows
import Derived.Test.YtbglbegljkgknaaGreatNq41
import Derived.ProofKit
import Derived.OpenShut
import Derived.ShutString
import Derived.SizedLaws
set_option linter.unusedVariables false
namespace Go.Proofs.YtbglbegljkgknaaGreat.Nt
open Go.ChangeShapes Go.WideShapes Go.ChangeAt Go.RowKit
open Go.Proofs.YtbglbegljkgknaaGreat.Lk (HasLks FitL HasRow hasRow_nil row_of flat_get)
open Go.Proofs.YtbglbegljkgknaaGreat.Tr (HasRts FitR)
open Go.Proofs.YtbglbegljkgknaaGreat.Fib
open Go.Proofs.YtbglbegljkgknaaGreat.Ord (St HasSts)
section
variable {H : Type} {enc : TypeId × Value → H} {W : World} {base : Nat} {spare : Nat → Bool} {held : Bool}
set_option maxRecDepth 100000 in
theorem open_routers {v : Value} {fuel : Nat} {x : DataW H × List MemPlace} (h : DataW.trod enc Tryz.prog W base spare held fuel 23 [v] = some x) : ∃ L : List Ro, HasRos W v L ∧ ∀ R ∈ L, FitRo R := by
  rcases Go.Deep.open_slice Tryz.underlying23 h with ⟨hcs, _⟩ | ⟨a, l, c, m, n, D, Pl, hcs, _, hl, hm, hmm, _, hx⟩
  · injection hcs with e; subst e
    exact ⟨[], hasRos_nil _, by simp⟩
  · injection hcs with e; subst e
    have hlm : l ≤ m := by rw [hmm]; split <;> omega
    have hA : ∀ i, ∃ p : RoM, i < l → (∀ j, j < 4 → W.cell? (a.add (i * 4 + j)) = (roC p)[j]?) ∧ RowsOf W p ∧ FitRo p.ro := fun i => by
      by_cases hi : i < l
      · obtain ⟨cs', h1, h2⟩ := hx i (by omega)
        rw [show Tryz.prog.cellsOf 51 = 4 from by kernel_rfl] at h1
        obtain ⟨_, hlen, hcell⟩ := World.cells?_some h1
        obtain ⟨c0, c1, c2, c3, rfl⟩ : ∃ c0 c1 c2 c3, cs' = [c0, c1, c2, c3] := by
          match cs', hlen with
          | [c0, c1, c2, c3], _ => exact ⟨c0, c1, c2, c3, rfl⟩
        obtain ⟨R, e0, e1, r1, r2, fR⟩ := open_ro4 h2
        refine ⟨⟨R, c2, c3⟩, fun _ => ⟨fun j hj => ?_, ⟨r1, r2⟩, fR⟩⟩
        have hh : roC ⟨R, c2, c3⟩ = [c0, c1, c2, c3] := by rw [e0, e1]; rfl
        rw [hh]
        have := hcell j hj
        rw [Go.Deep.add_add] at this
        rw [this]
      · exact ⟨⟨zeroRo, .bool false, .bool false⟩, fun h => absurd h hi⟩
    obtain ⟨F, hF⟩ := Classical.axiomOfChoice hA
    refine ⟨rosOf ((List.range l).map F), ⟨(List.range l).map F, rfl, ?_, fun p hp => ?_⟩, fun R hR => ?_⟩
    · rw [List.length_map, List.length_range]
      refine row_of (by decide) hl hm (by rw [roCs_len]; simp) (fun j hj => ?_)
      have hj2 : j / 4 < l := by omega
      obtain ⟨hc, _⟩ := hF (j / 4) hj2
      show _ = (((List.range l).map F).flatMap roC)[j]?
      rw [flat_get roC 4 (by decide) (fun x => rfl) _ j (by simp; omega)]
      simp only [List.getElem_map, List.getElem_range]
      rw [← hc (j % 4) (by omega)]
      congr 2
      omega
    · obtain ⟨i, hi, rfl⟩ := List.mem_map.1 hp
      exact (hF i (List.mem_range.1 hi)).2.1
    · unfold rosOf at hR
      obtain ⟨p, hp, rfl⟩ := List.mem_map.1 hR
      obtain ⟨i, hi, rfl⟩ := List.mem_map.1 hp
      exact (hF i (List.mem_range.1 hi)).2.2
set_option maxRecDepth 100000 in
theorem open_net2 {s c : Value} {fuel : Nat} {d : DataW H × List MemPlace} (hf : DataW.trod enc Tryz.prog W base spare held fuel 25 [s, c] = some d) : ∃ n : NetT, HasSts W s n.seats ∧ HasRos W c n.ros ∧ FitN n := by
  obtain ⟨xs, n, _, _, hlen, hxl, hfs⟩ := DataW.trod_struct Tryz.underlying25 hf
  have g0 : DataW.trod enc Tryz.prog W base spare held n 22 ((([s, c] : List Value).drop 0).take (Tryz.prog.cellsOf 22)) = xs[0]? := hfs 0 _ rfl
  have g1 : DataW.trod enc Tryz.prog W base spare held n 23 ((([s, c] : List Value).drop 1).take (Tryz.prog.cellsOf 23)) = xs[1]? := hfs 1 _ rfl
  have hx4 : xs.length = 2 := hxl
  rw [List.getElem?_eq_getElem (by omega)] at g0 g1
  rw [show Tryz.prog.cellsOf 22 = 1 from by kernel_rfl] at g0
  rw [show Tryz.prog.cellsOf 23 = 1 from by kernel_rfl] at g1
  obtain ⟨zs, hs, hzl⟩ := Ord.open_seats (v := s) g0
  obtain ⟨qs, hp, hql⟩ := open_routers (v := c) g1
  exact ⟨⟨zs, qs⟩, hs, hp, hzl, hql⟩
set_option maxRecDepth 100000 in
theorem open_net {v : Value} {d : DataW H} {ps : List MemPlace} {r : Reach} {b0 : Nat} (hval : Value.okWide Tryz.prog W r b0 25 v) (h : DataW.Trod enc Tryz.prog W base spare held 25 v d ps) : ∃ (n : NetT) (a b : Value), v = .agg #[a, b] ∧ HasSts W a n.seats ∧ HasRos W b n.ros ∧ FitN n := by
  obtain ⟨cs, rfl, hsz⟩ := okWide_struct Tryz.underlying25 hval
  obtain ⟨fuel, hf⟩ := h
  rw [show Tryz.prog.cellsOf 25 = 2 from by kernel_rfl] at hsz
  obtain ⟨s, c, rfl⟩ : ∃ s c, cs = #[s, c] := by
    obtain ⟨l⟩ := cs
    match l, hsz with
    | [s, c], _ => exact ⟨s, c, rfl⟩
  obtain ⟨n, h1, h2, h3⟩ := open_net2 hf
  exact ⟨n, s, c, rfl, h1, h2, h3⟩
end
end Go.Proofs.YtbglbegljkgknaaGreat.Nt
namespace Go.Proofs.YtbglbegljkgknaaGreat.Nt
open Go.Proofs.YtbglbegljkgknaaGreat.Msg (Ev Ac okE FitE)
open Go.Proofs.YtbglbegljkgknaaGreat.Fib
open Go.Proofs.YtbglbegljkgknaaGreat.Ord (St nextL okL askL misL)
theorem up_oneR {L : List Ro} (h : UpR L) {x y : Ro} (hx : x ∈ L) (hy : y ∈ L) (e : x.id = y.id) : x = y := by
  obtain ⟨j, hj, rfl⟩ := List.getElem_of_mem hx
  obtain ⟨k, hk, rfl⟩ := List.getElem_of_mem hy
  rcases Nat.lt_trichotomy j k with g | g | g
  · have := List.pairwise_iff_getElem.1 h j k hj hk g
    omega
  · subst g; rfl
  · have := List.pairwise_iff_getElem.1 h k j hk hj g
    omega
theorem find_mem {n : NetT} (h : okN n = true) {R : Ro} (hR : R ∈ n.ros) : findN n R.id = (R, 0) := by
  obtain ⟨_, _, p3, p4⟩ := pos_parts n.ros R.id (ros_up h)
  unfold findN
  rw [h]
  cases hi : isN n.ros R.id with
  | false => exact absurd rfl (p4 hi R hR)
  | true =>
    have := up_oneR (ros_up h) (p3 hi).1 hR (p3 hi).2
    rw [this]
    rfl
theorem apply_zero {n : NetT} {e : Ev} {h : Int} (hz : (applyN n e h).2 = 0) : okN n = true ∧ (takeN n e h).2 = 0 ∧ applyN n e h = takeN n e h := by
  unfold applyN at hz ⊢
  cases hok : okN n with
  | false => rw [hok] at hz; simp at hz
  | true =>
    rw [hok] at hz
    simp only [if_true] at hz ⊢
    by_cases hc : (takeN n e h).2 = 2 ∨ (takeN n e h).2 = 1
    · rw [if_pos hc] at hz
      simp only at hz
      omega
    · rw [if_neg hc] at hz ⊢
      exact ⟨trivial, hz, rfl⟩
theorem apply_form_z {n : NetT} {e : Ev} {h : Int} (hz : (applyN n e h).2 = 2 ∨ (applyN n e h).2 = 1) : (applyN n e h).1 = zeroN := by
  unfold applyN at hz ⊢
  cases hok : okN n with
  | false => rfl
  | true =>
    rw [hok] at hz
    simp only [if_true] at hz ⊢
    by_cases hc : (takeN n e h).2 = 2 ∨ (takeN n e h).2 = 1
    · rw [if_pos hc]
    · rw [if_neg hc] at hz; exact absurd hz hc
theorem apply_other {n : NetT} {e : Ev} {h : Int} (h0 : ¬ (applyN n e h).2 = 0) (h2 : ¬ (applyN n e h).2 = 2) (h1 : ¬ (applyN n e h).2 = 1) : (applyN n e h).1 = n := by
  unfold applyN at h0 h1 h2 ⊢
  cases hok : okN n with
  | false => rw [hok] at h2; exact absurd rfl h2
  | true =>
    rw [hok] at h0 h1 h2
    simp only [if_true] at h0 h1 h2 ⊢
    by_cases hc : (takeN n e h).2 = 2 ∨ (takeN n e h).2 = 1
    · rw [if_pos hc] at h2 h1
      exact absurd hc (fun hc => hc.elim h2 h1)
    · rw [if_neg hc] at h0 ⊢
      exact take_same h0
theorem take_q {n : NetT} {e : Ev} {h : Int} (hok : okN n = true) (hz : (takeN n e h).2 = 0) : okRo (applyRo (wasN n.ros e.router) e).1 = true ∧ (applyRo (wasN n.ros e.router) e).1.id = e.router ∧ (applyRo (wasN n.ros e.router) e).1.up = !decide (e.kind = 2) := by
  obtain ⟨t1, t2, t3, t4⟩ := take_zero hz
  have hw := was_ok hok (ev_id (next_okE t1).2.1)
  rcases apply_cases (wasN n.ros e.router) e with g | g | g
  · exact ⟨g.2.2.2.2.2.1, by rw [g.2.2.2.2.2.2.1]; exact hw.2, g.2.2.2.2.2.2.2.1⟩
  · rw [g.1] at t2; exact absurd t2 (by decide)
  · exact absurd t2 g.1
theorem right_net {n : NetT} {e : Ev} {h : Int} (hz : (applyN n e h).2 = 0) : okN n = true ∧ okN (applyN n e h).1 = true ∧ (∀ R ∈ n.ros, (findN (applyN n e h).1 R.id).2 = 0 ∧ (R.id ≠ e.router → (findN (applyN n e h).1 R.id).1 = R)) ∧ (findN (applyN n e h).1 e.router).2 = 0 ∧ (findN (applyN n e h).1 e.router).1.up = !decide (e.kind = 2) := by
  obtain ⟨hok, ht, ea⟩ := apply_zero hz
  rw [ea]
  have hr := take_right hok ht
  obtain ⟨t1, t2, t3, t4⟩ := take_zero ht
  obtain ⟨q1, q2, q3⟩ := take_q hok ht
  have hros : (takeN n e h).1.ros = n.ros.filter (fun R => decide (R.id < e.router)) ++ ([(applyRo (wasN n.ros e.router) e).1] ++ n.ros.filter (fun R => decide (e.router < R.id))) := by rw [t4]; exact put_parts hok _ _
  have hQ : (applyRo (wasN n.ros e.router) e).1 ∈ (takeN n e h).1.ros := by rw [hros]; simp
  have hfQ := find_mem hr hQ
  rw [q2] at hfQ
  refine ⟨hok, hr, fun R hR => ?_, by rw [hfQ], by rw [hfQ]; exact q3⟩
  by_cases hid : R.id = e.router
  · rw [hid, hfQ]
    exact ⟨rfl, fun h => absurd rfl h⟩
  · have hm : R ∈ (takeN n e h).1.ros := by
      rw [hros]
      simp only [List.mem_append, List.mem_singleton, List.mem_filter, decide_eq_true_eq]
      rcases Int.lt_or_gt_of_ne hid with g | g
      · exact .inl ⟨hR, g⟩
      · exact .inr (.inr ⟨hR, g⟩)
    rw [find_mem hr hm]
    exact ⟨rfl, fun _ => rfl⟩
end Go.Proofs.YtbglbegljkgknaaGreat.Nt
namespace Go.Proofs.YtbglbegljkgknaaGreat
namespace netRight
open Go.ChangeShapes Go.WideShapes Go.ChangeAt Go.RowKit
open Go.ChangeMaps (open_string shut_string)
open Go.Proofs.YtbglbegljkgknaaGreat.Lk (HasLks HasRow HasLks.keep hasRow_own)
open Go.Proofs.YtbglbegljkgknaaGreat.Tr (Rt HasRts HasRts.keep)
open Go.Proofs.YtbglbegljkgknaaGreat.Msg (Ev Ac okE FitE evV evC)
open Go.Proofs.YtbglbegljkgknaaGreat.Fib (Ro RoIs FitRo cells12)
open Go.Proofs.YtbglbegljkgknaaGreat.Nt
open Go.Proofs.YtbglbegljkgknaaGreat.Ord (St HasSts HasSts.keep nextL okL)
open Go.Proofs.YtbglbegljkgknaaGreat.Addr (RowAt below2 below_drew below_new bset RowAt.lt RowAt.cell RowAt.frozen RowAt.below RowAt.drew RowAt.new RowAt.alloc RowAt.set1 RowAt.gkeep gset grefl cells2 cells4 hiN loN)
theorem own : ownKnob Tryz.prog.godebug = none := by kernel_rfl
theorem laidOut : laidOutB Tryz.prog = true := by kernel_rfl
set_option maxHeartbeats 16000000 in
set_option maxRecDepth 20000 in
theorem walk_form (so lo : Option Addr) (sn sc ln lc : Nat) (ea eb ec ed : Int) (ee : Bool) (ef eg eh ei ej ek el : Int) (h : Int) (S : List St) (L : List Ro) (N : NetT) (z : Int) (w : World) (hS : HasSts w (.slice so sn sc) S) (hL : HasRos w (.slice lo ln lc) L) (c1 : ∀ W u v, HasSts W u S → HasRos W v L → Calls Tryz.prog 9 #[.agg #[u, v], .agg #[.int .u8 ea, .int .i64 eb, .int .u64 ec, .int .i64 ed, .bool ee, .int .u64 ef, .int .u64 eg, .int .i64 eh, .int .u8 ei, .int .i64 ej, .int .i64 ek, .int .i64 el], .int .i64 h] W (NetIs N z W)) (HZ : Hid (z = 2 ∨ z = 1)) (HN : Hid (N = zeroN)) :
    Calls Tryz.prog 5 #[.agg #[.slice so sn sc, .slice lo ln lc], .agg #[.int .u8 ea, .int .i64 eb, .int .u64 ec, .int .i64 ed, .bool ee, .int .u64 ef, .int .u64 eg, .int .i64 eh, .int .u8 ei, .int .i64 ej, .int .i64 ek, .int .i64 el], .int .i64 h] w (BoolIs true w) := by
  have hB := Below.refl w.heap.size w
  go_enter Tryz.func5, Tryz.ntmps5
  obtain ⟨Y1, hY⟩ : ∃ Y, Y = ((w.alloc (.cells #[.slice so sn sc, .slice lo ln lc] 25)).alloc (.cells #[.int .u8 ea, .int .i64 eb, .int .u64 ec, .int .i64 ed, .bool ee, .int .u64 ef, .int .u64 eg, .int .i64 eh, .int .u8 ei, .int .i64 ej, .int .i64 ek, .int .i64 el] 38)) := ⟨_, rfl⟩
  have hbY : Below w.heap.size w Y1 := by rw [hY]; exact below_new (below_new (Below.refl _ _) _) _
  have hle : w.heap.size ≤ w.heap.size := hB.size
  obtain ⟨gn, hgn⟩ : ∃ g, g = w.heap.size := ⟨_, rfl⟩
  have rn : RowAt Y1 gn [.slice so sn sc, .slice lo ln lc] 25 := by
    have h := (RowAt.new w [.slice so sn sc, .slice lo ln lc] 25).alloc (.cells #[.int .u8 ea, .int .i64 eb, .int .u64 ec, .int .i64 ed, .bool ee, .int .u64 ef, .int .u64 eg, .int .i64 eh, .int .u8 ei, .int .i64 ej, .int .i64 ek, .int .i64 el] 38)
    rw [hgn, hY]; exact h
  have len : w.heap.size ≤ gn := by omega
  obtain ⟨ge, hge⟩ : ∃ g, g = w.heap.size + 1 := ⟨_, rfl⟩
  have re : RowAt Y1 ge [.int .u8 ea, .int .i64 eb, .int .u64 ec, .int .i64 ed, .bool ee, .int .u64 ef, .int .u64 eg, .int .i64 eh, .int .u8 ei, .int .i64 ej, .int .i64 ek, .int .i64 el] 38 := by
    have h := RowAt.new (w.alloc (.cells #[.slice so sn sc, .slice lo ln lc] 25)) [.int .u8 ea, .int .i64 eb, .int .u64 ec, .int .i64 ed, .bool ee, .int .u64 ef, .int .u64 eg, .int .i64 eh, .int .u8 ei, .int .i64 ej, .int .i64 ek, .int .i64 el] 38
    simp only [World.size_alloc] at h
    rw [hge, hY]; exact h
  have lee : w.heap.size ≤ ge := by omega
  have nene : gn ≠ ge := by omega
  replace hS := hS.keep hbY
  replace hL := hL.keep hbY
  replace hB := below2 hB hbY
  go_upto_region 1 with fail
  rw [← hY, ← hge, ← hgn]
  clear hY hbY hle hgn hge
  go_wp2_with fail
  go_at_call 14; refine (lives_any _).mono ?_; rintro e w2 ⟨rfl, hb⟩
  replace rn := RowAt.below rn hb
  replace re := RowAt.below re hb
  replace hS := hS.keep hb
  replace hL := hL.keep hb
  replace hB := below2 hB hb
  clear hb
  obtain ⟨n0, n1, nf⟩ := cells2 rn
  obtain ⟨e0, e1, e2, e3, e4, e5, e6, e7, e8, e9, e10, e11, ef⟩ := cells12 re
  go_wp2_with fail
  clear n0 n1 nf e0 e1 e2 e3 e4 e5 e6 e7 e8 e9 e10 e11 ef
  go_at_call 9; refine (c1 _ _ _ hS hL).mono ?_; rintro e w3 ⟨o1, n1, m1, o2, n2, m2, rfl, hT, hM, hb⟩
  replace rn := RowAt.below rn hb
  replace re := RowAt.below re hb
  replace hS := hS.keep hb
  replace hL := hL.keep hb
  replace hB := below2 hB hb
  clear hb
  obtain ⟨Y4, hY⟩ : ∃ Y, Y = (w3.alloc (.cells #[.slice o1 n1 m1, .slice o2 n2 m2] 25)) := ⟨_, rfl⟩
  have hbY : Below w3.heap.size w3 Y4 := by rw [hY]; exact below_new (Below.refl _ _) _
  have hle : w.heap.size ≤ w3.heap.size := hB.size
  obtain ⟨gx, hgx⟩ : ∃ g, g = w3.heap.size := ⟨_, rfl⟩
  have rx : RowAt Y4 gx [.slice o1 n1 m1, .slice o2 n2 m2] 25 := by
    have h := RowAt.new w3 [.slice o1 n1 m1, .slice o2 n2 m2] 25
    rw [hgx, hY]; exact h
  have lex : w.heap.size ≤ gx := by omega
  have nenx : gn ≠ gx := by have := RowAt.lt rn; omega
  have neex : ge ≠ gx := by have := RowAt.lt re; omega
  replace rn := RowAt.below rn hbY
  replace re := RowAt.below re hbY
  replace hS := hS.keep hbY
  replace hL := hL.keep hbY
  replace hT := hT.keep hbY
  replace hM := hM.keep hbY
  replace hB := below2 hB hbY
  go_upto_region 4 with fail
  rw [← hY, ← hgx]
  clear hY hbY hle hgx
  obtain ⟨q1, q2, q3, _⟩ := Ord.HasRow.slice hT
  injection q3 with _ q3 _
  have hl1 : n1 = 0 := by rw [q3, HN.out]; rfl
  obtain ⟨q4, q5, q6, _⟩ := HasRos.slice hM
  injection q6 with _ q6 _
  have hl2 : n2 = 0 := by rw [q6, HN.out]; rfl
  subst hl1 hl2
  clear q3 q6
  obtain ⟨x0, x1, xf⟩ := cells2 rx
  rcases HZ.out with hz | hz
  · subst hz
    go_wp2_with fail
    go_ret
    exact ⟨rfl, hB⟩
  · subst hz
    go_wp2_with fail
    go_ret
    exact ⟨rfl, hB⟩
set_option maxHeartbeats 16000000 in
set_option maxRecDepth 20000 in
theorem walk_other (so lo : Option Addr) (sn sc ln lc : Nat) (ea eb ec ed : Int) (ee : Bool) (ef eg eh ei ej ek el : Int) (h : Int) (S : List St) (L : List Ro) (N : NetT) (z : Int) (w : World) (hS : HasSts w (.slice so sn sc) S) (hL : HasRos w (.slice lo ln lc) L) (c1 : ∀ W u v, HasSts W u S → HasRos W v L → Calls Tryz.prog 9 #[.agg #[u, v], .agg #[.int .u8 ea, .int .i64 eb, .int .u64 ec, .int .i64 ed, .bool ee, .int .u64 ef, .int .u64 eg, .int .i64 eh, .int .u8 ei, .int .i64 ej, .int .i64 ek, .int .i64 el], .int .i64 h] W (NetIs N z W)) (HZ2 : Hid (¬ z = 2)) (HZ1 : Hid (¬ z = 1)) (HZ0 : Hid (¬ z = 0)) (HN : Hid (N = ⟨S, L⟩)) :
    Calls Tryz.prog 5 #[.agg #[.slice so sn sc, .slice lo ln lc], .agg #[.int .u8 ea, .int .i64 eb, .int .u64 ec, .int .i64 ed, .bool ee, .int .u64 ef, .int .u64 eg, .int .i64 eh, .int .u8 ei, .int .i64 ej, .int .i64 ek, .int .i64 el], .int .i64 h] w (BoolIs true w) := by
  have hB := Below.refl w.heap.size w
  go_enter Tryz.func5, Tryz.ntmps5
  obtain ⟨Y1, hY⟩ : ∃ Y, Y = ((w.alloc (.cells #[.slice so sn sc, .slice lo ln lc] 25)).alloc (.cells #[.int .u8 ea, .int .i64 eb, .int .u64 ec, .int .i64 ed, .bool ee, .int .u64 ef, .int .u64 eg, .int .i64 eh, .int .u8 ei, .int .i64 ej, .int .i64 ek, .int .i64 el] 38)) := ⟨_, rfl⟩
  have hbY : Below w.heap.size w Y1 := by rw [hY]; exact below_new (below_new (Below.refl _ _) _) _
  have hle : w.heap.size ≤ w.heap.size := hB.size
  obtain ⟨gn, hgn⟩ : ∃ g, g = w.heap.size := ⟨_, rfl⟩
  have rn : RowAt Y1 gn [.slice so sn sc, .slice lo ln lc] 25 := by
    have h := (RowAt.new w [.slice so sn sc, .slice lo ln lc] 25).alloc (.cells #[.int .u8 ea, .int .i64 eb, .int .u64 ec, .int .i64 ed, .bool ee, .int .u64 ef, .int .u64 eg, .int .i64 eh, .int .u8 ei, .int .i64 ej, .int .i64 ek, .int .i64 el] 38)
    rw [hgn, hY]; exact h
  have len : w.heap.size ≤ gn := by omega
  obtain ⟨ge, hge⟩ : ∃ g, g = w.heap.size + 1 := ⟨_, rfl⟩
  have re : RowAt Y1 ge [.int .u8 ea, .int .i64 eb, .int .u64 ec, .int .i64 ed, .bool ee, .int .u64 ef, .int .u64 eg, .int .i64 eh, .int .u8 ei, .int .i64 ej, .int .i64 ek, .int .i64 el] 38 := by
    have h := RowAt.new (w.alloc (.cells #[.slice so sn sc, .slice lo ln lc] 25)) [.int .u8 ea, .int .i64 eb, .int .u64 ec, .int .i64 ed, .bool ee, .int .u64 ef, .int .u64 eg, .int .i64 eh, .int .u8 ei, .int .i64 ej, .int .i64 ek, .int .i64 el] 38
    simp only [World.size_alloc] at h
    rw [hge, hY]; exact h
  have lee : w.heap.size ≤ ge := by omega
  have nene : gn ≠ ge := by omega
  replace hS := hS.keep hbY
  replace hL := hL.keep hbY
  replace hB := below2 hB hbY
  go_upto_region 1 with fail
  rw [← hY, ← hge, ← hgn]
  clear hY hbY hle hgn hge
  go_wp2_with fail
  go_at_call 14; refine (lives_any _).mono ?_; rintro e w2 ⟨rfl, hb⟩
  replace rn := RowAt.below rn hb
  replace re := RowAt.below re hb
  replace hS := hS.keep hb
  replace hL := hL.keep hb
  replace hB := below2 hB hb
  clear hb
  obtain ⟨n0, n1, nf⟩ := cells2 rn
  obtain ⟨e0, e1, e2, e3, e4, e5, e6, e7, e8, e9, e10, e11, ef⟩ := cells12 re
  go_wp2_with fail
  clear n0 n1 nf e0 e1 e2 e3 e4 e5 e6 e7 e8 e9 e10 e11 ef
  go_at_call 9; refine (c1 _ _ _ hS hL).mono ?_; rintro e w3 ⟨o1, n1, m1, o2, n2, m2, rfl, hT, hM, hb⟩
  replace rn := RowAt.below rn hb
  replace re := RowAt.below re hb
  replace hS := hS.keep hb
  replace hL := hL.keep hb
  replace hB := below2 hB hb
  clear hb
  obtain ⟨Y4, hY⟩ : ∃ Y, Y = (w3.alloc (.cells #[.slice o1 n1 m1, .slice o2 n2 m2] 25)) := ⟨_, rfl⟩
  have hbY : Below w3.heap.size w3 Y4 := by rw [hY]; exact below_new (Below.refl _ _) _
  have hle : w.heap.size ≤ w3.heap.size := hB.size
  obtain ⟨gx, hgx⟩ : ∃ g, g = w3.heap.size := ⟨_, rfl⟩
  have rx : RowAt Y4 gx [.slice o1 n1 m1, .slice o2 n2 m2] 25 := by
    have h := RowAt.new w3 [.slice o1 n1 m1, .slice o2 n2 m2] 25
    rw [hgx, hY]; exact h
  have lex : w.heap.size ≤ gx := by omega
  have nenx : gn ≠ gx := by have := RowAt.lt rn; omega
  have neex : ge ≠ gx := by have := RowAt.lt re; omega
  replace rn := RowAt.below rn hbY
  replace re := RowAt.below re hbY
  replace hS := hS.keep hbY
  replace hL := hL.keep hbY
  replace hT := hT.keep hbY
  replace hM := hM.keep hbY
  replace hB := below2 hB hbY
  go_upto_region 4 with fail
  rw [← hY, ← hgx]
  clear hY hbY hle hgx
  have hN := HN.out
  rw [hN] at hT hM
  clear hN
  have hz2 : (z == 2) = false := beq_eq_false_iff_ne.2 HZ2.out
  have hz1 : (z == 1) = false := beq_eq_false_iff_ne.2 HZ1.out
  have hz0 : (z != 0) = true := bne_iff_ne.2 HZ0.out
  obtain ⟨x0, x1, xf⟩ := cells2 rx
  obtain ⟨n0, n1, nf⟩ := cells2 rn
  go_wp2_with fail
  clear x0 x1 xf n0 n1 nf
  go_at_call 11; refine (same_any ⟨S, L⟩ _ _ _ _ _ hT hM hS hL).mono ?_; rintro e w5 ⟨rfl, hb⟩
  replace rn := RowAt.below rn hb
  replace re := RowAt.below re hb
  replace rx := RowAt.below rx hb
  replace hS := hS.keep hb
  replace hL := hL.keep hb
  replace hT := hT.keep hb
  replace hM := hM.keep hb
  replace hB := below2 hB hb
  clear hb
  go_wp2_with fail
  go_ret
  exact ⟨rfl, hB⟩
set_option maxHeartbeats 16000000 in
set_option maxRecDepth 20000 in
theorem walk_ok (so lo : Option Addr) (sn sc ln lc : Nat) (ea eb ec ed : Int) (ee : Bool) (ef eg eh ei ej ek el : Int) (h : Int) (S : List St) (L : List Ro) (N : NetT) (z : Int) (w : World) (hS : HasSts w (.slice so sn sc) S) (hL : HasRos w (.slice lo ln lc) L) (c1 : ∀ W u v, HasSts W u S → HasRos W v L → Calls Tryz.prog 9 #[.agg #[u, v], .agg #[.int .u8 ea, .int .i64 eb, .int .u64 ec, .int .i64 ed, .bool ee, .int .u64 ef, .int .u64 eg, .int .i64 eh, .int .u8 ei, .int .i64 ej, .int .i64 ek, .int .i64 el], .int .i64 h] W (NetIs N 0 W)) (HLN : Hid (ln = L.length)) (hlni : (ln : Int) ≤ 9223372036854775807) (HFN : Hid (FitN N)) (HX : Hid (∀ R ∈ L, (findN N R.id).2 = 0 ∧ (R.id ≠ eb → (findN N R.id).1 = R))) (HE : Hid ((findN N eb).2 = 0 ∧ (findN N eb).1.up = !decide (ea = 2))) (c2 : ∀ W u v, HasSts W u N.seats → HasRos W v N.ros → Calls Tryz.prog 15 #[.agg #[u, v]] W fun e w' => e = .returned (.int .i64 0) ∧ Below W.heap.size W w') :
    Calls Tryz.prog 5 #[.agg #[.slice so sn sc, .slice lo ln lc], .agg #[.int .u8 ea, .int .i64 eb, .int .u64 ec, .int .i64 ed, .bool ee, .int .u64 ef, .int .u64 eg, .int .i64 eh, .int .u8 ei, .int .i64 ej, .int .i64 ek, .int .i64 el], .int .i64 h] w (BoolIs true w) := by
  have hB := Below.refl w.heap.size w
  go_enter Tryz.func5, Tryz.ntmps5
  obtain ⟨Y1, hY⟩ : ∃ Y, Y = ((w.alloc (.cells #[.slice so sn sc, .slice lo ln lc] 25)).alloc (.cells #[.int .u8 ea, .int .i64 eb, .int .u64 ec, .int .i64 ed, .bool ee, .int .u64 ef, .int .u64 eg, .int .i64 eh, .int .u8 ei, .int .i64 ej, .int .i64 ek, .int .i64 el] 38)) := ⟨_, rfl⟩
  have hbY : Below w.heap.size w Y1 := by rw [hY]; exact below_new (below_new (Below.refl _ _) _) _
  have hle : w.heap.size ≤ w.heap.size := hB.size
  obtain ⟨gn, hgn⟩ : ∃ g, g = w.heap.size := ⟨_, rfl⟩
  have rn : RowAt Y1 gn [.slice so sn sc, .slice lo ln lc] 25 := by
    have h := (RowAt.new w [.slice so sn sc, .slice lo ln lc] 25).alloc (.cells #[.int .u8 ea, .int .i64 eb, .int .u64 ec, .int .i64 ed, .bool ee, .int .u64 ef, .int .u64 eg, .int .i64 eh, .int .u8 ei, .int .i64 ej, .int .i64 ek, .int .i64 el] 38)
    rw [hgn, hY]; exact h
  have len : w.heap.size ≤ gn := by omega
  obtain ⟨ge, hge⟩ : ∃ g, g = w.heap.size + 1 := ⟨_, rfl⟩
  have re : RowAt Y1 ge [.int .u8 ea, .int .i64 eb, .int .u64 ec, .int .i64 ed, .bool ee, .int .u64 ef, .int .u64 eg, .int .i64 eh, .int .u8 ei, .int .i64 ej, .int .i64 ek, .int .i64 el] 38 := by
    have h := RowAt.new (w.alloc (.cells #[.slice so sn sc, .slice lo ln lc] 25)) [.int .u8 ea, .int .i64 eb, .int .u64 ec, .int .i64 ed, .bool ee, .int .u64 ef, .int .u64 eg, .int .i64 eh, .int .u8 ei, .int .i64 ej, .int .i64 ek, .int .i64 el] 38
    simp only [World.size_alloc] at h
    rw [hge, hY]; exact h
  have lee : w.heap.size ≤ ge := by omega
  have nene : gn ≠ ge := by omega
  replace hS := hS.keep hbY
  replace hL := hL.keep hbY
  replace hB := below2 hB hbY
  go_upto_region 1 with fail
  rw [← hY, ← hge, ← hgn]
  clear hY hbY hle hgn hge
  go_wp2_with fail
  go_at_call 14; refine (lives_any _).mono ?_; rintro e w2 ⟨rfl, hb⟩
  replace rn := RowAt.below rn hb
  replace re := RowAt.below re hb
  replace hS := hS.keep hb
  replace hL := hL.keep hb
  replace hB := below2 hB hb
  clear hb
  obtain ⟨n0, n1, nf⟩ := cells2 rn
  obtain ⟨e0, e1, e2, e3, e4, e5, e6, e7, e8, e9, e10, e11, ef⟩ := cells12 re
  go_wp2_with fail
  clear n0 n1 nf e0 e1 e2 e3 e4 e5 e6 e7 e8 e9 e10 e11 ef
  go_at_call 9; refine (c1 _ _ _ hS hL).mono ?_; rintro e w3 ⟨o1, n1, m1, o2, n2, m2, rfl, hT, hM, hb⟩
  replace rn := RowAt.below rn hb
  replace re := RowAt.below re hb
  replace hS := hS.keep hb
  replace hL := hL.keep hb
  replace hB := below2 hB hb
  clear hb
  obtain ⟨Y4, hY⟩ : ∃ Y, Y = (w3.alloc (.cells #[.slice o1 n1 m1, .slice o2 n2 m2] 25)) := ⟨_, rfl⟩
  have hbY : Below w3.heap.size w3 Y4 := by rw [hY]; exact below_new (Below.refl _ _) _
  have hle : w.heap.size ≤ w3.heap.size := hB.size
  obtain ⟨gx, hgx⟩ : ∃ g, g = w3.heap.size := ⟨_, rfl⟩
  have rx : RowAt Y4 gx [.slice o1 n1 m1, .slice o2 n2 m2] 25 := by
    have h := RowAt.new w3 [.slice o1 n1 m1, .slice o2 n2 m2] 25
    rw [hgx, hY]; exact h
  have lex : w.heap.size ≤ gx := by omega
  have nenx : gn ≠ gx := by have := RowAt.lt rn; omega
  have neex : ge ≠ gx := by have := RowAt.lt re; omega
  replace rn := RowAt.below rn hbY
  replace re := RowAt.below re hbY
  replace hS := hS.keep hbY
  replace hL := hL.keep hbY
  replace hT := hT.keep hbY
  replace hM := hM.keep hbY
  replace hB := below2 hB hbY
  go_upto_region 4 with fail
  rw [← hY, ← hgx]
  clear hY hbY hle hgx
  have HF2 : Hid (∀ (id : Int) (W : World) (u v : Value), HasSts W u N.seats → HasRos W v N.ros → Calls Tryz.prog 17 #[.agg #[u, v], .int .i64 id] W (RoIs (findN N id).1 (findN N id).2 W)) := fun id W u v h1 h2 => findF_any N id u v W h1 h2 HFN.out
  clear c1
  obtain ⟨n0, n1, nf⟩ := cells2 rn
  go_wp2_with fail
  clear n0 n1 nf
  go_loopw [46] (fun i wr => ∃ k : Nat, k ≤ ln ∧ i = .int .i64 k ∧ Hid (Below Y4.heap.size Y4 wr)) (fun i _ => ln - (Go.RowKit.intOf i).toNat)
  case atStart => exact ⟨0, by omega, rfl, Below.refl _ _⟩
  case round =>
    obtain ⟨k, hk, rfl, HI⟩ := hrel
    have hbl := HI.out
    by_cases hlt : k < ln
    · have hkz : k < L.length := by rw [← HLN.out]; exact hlt
      obtain ⟨b1, i1, p1, q1, p2, q2, rfl, hb1, x0, x1, x2, x3, xr, xl⟩ := HasRos.cell (hL.keep hbl) k hkz
      obtain ⟨hc, hs⟩ := HX.out L[k] (List.getElem_mem hkz)
      have cf := fun (V : World) (hv : Below Y4.heap.size Y4 V) => HF2.out L[k].id V _ _ (hT.keep hv) (hM.keep hv)
      rw [hc] at cf
      have HS : Hid (L[k].id ≠ eb → (findN N L[k].id).1 = L[k]) := hs
      clear hc hs
      have HXR : Hid (HasRts wr (.slice p1 L[k].rts.length q1) L[k].rts ∧ HasLks wr (.slice p2 L[k].lks.length q2) L[k].lks) := ⟨xr, xl⟩
      clear xr xl
      generalize findN N L[k].id = FN at cf HS
      obtain ⟨Q, zq⟩ := FN
      simp only at cf HS
      obtain ⟨R, hR⟩ : ∃ R, R = L[k] := ⟨_, rfl⟩
      rw [← hR] at x0 x1 x2 x3 cf HS HXR
      clear hR
      have hki : (k : Int) < (ln : Int) := by omega
      generalize hn1 : R.rts.length = l1 at *
      generalize hn2 : R.lks.length = l2 at *
      obtain ⟨V, hV⟩ : ∃ V, V = wr.alloc (.cells #[.int .i64 R.id, .bool R.up, .slice p1 l1 q1, .slice p2 l2 q2] 51) := ⟨_, rfl⟩
      have hbV : Below wr.heap.size wr V := by rw [hV]; exact below_new (Below.refl _ _) _
      have rV : RowAt V wr.heap.size [.int .i64 R.id, .bool R.up, .slice p1 l1 q1, .slice p2 l2 q2] 51 := by rw [hV]; exact RowAt.new _ _ _
      go_upto_region 11 with fail
      rw [← hV]
      have hbn : Below Y4.heap.size Y4 V := below2 hbl hbV
      replace HXR : Hid (HasRts V (.slice p1 l1 q1) R.rts ∧ HasLks V (.slice p2 l2 q2) R.lks) := ⟨HXR.out.1.keep hbV, HXR.out.2.keep hbV⟩
      clear hV hbV x0 x1 x2 x3 hb1
      generalize wr.heap.size = gv at rV ⊢
      obtain ⟨y0, y1, y2, y3, yf⟩ := cells4 rV
      obtain ⟨t0, t1, tf⟩ := cells2 (RowAt.below rx hbn)
      go_wp2_with fail
      go_at_call 17; refine (cf _ hbn).mono ?_; rintro x w9 ⟨a1, a2, a3, a4, a5, a6, rfl, hQ1, hQ2, hb9⟩
      clear y0 y1 y2 y3 yf t0 t1 tf cf
      have hbm : Below Y4.heap.size Y4 w9 := below2 hbn hb9
      replace rV := RowAt.below rV hb9
      replace HXR : Hid (HasRts w9 (.slice p1 l1 q1) R.rts ∧ HasLks w9 (.slice p2 l2 q2) R.lks) := ⟨HXR.out.1.keep hb9, HXR.out.2.keep hb9⟩
      obtain ⟨U, hU⟩ : ∃ U, U = w9.alloc (.cells #[.int .i64 Q.id, .bool Q.up, .slice a1 a2 a3, .slice a4 a5 a6] 51) := ⟨_, rfl⟩
      have hbU : Below w9.heap.size w9 U := by rw [hU]; exact below_new (Below.refl _ _) _
      have rU : RowAt U w9.heap.size [.int .i64 Q.id, .bool Q.up, .slice a1 a2 a3, .slice a4 a5 a6] 51 := by rw [hU]; exact RowAt.new _ _ _
      go_upto_region 12 with fail
      rw [← hU]
      have hbu : Below Y4.heap.size Y4 U := below2 hbm hbU
      replace rV := RowAt.below rV hbU
      have HQ : Hid (HasRts U (.slice a1 a2 a3) Q.rts ∧ HasLks U (.slice a4 a5 a6) Q.lks) := ⟨hQ1.keep hbU, hQ2.keep hbU⟩
      replace HXR : Hid (HasRts U (.slice p1 l1 q1) R.rts ∧ HasLks U (.slice p2 l2 q2) R.lks) := ⟨HXR.out.1.keep hbU, HXR.out.2.keep hbU⟩
      clear hU hbU hQ1 hQ2 hb9
      generalize w9.heap.size = gu at rU ⊢
      have reU := RowAt.below re hbu
      obtain ⟨⟨z0, z1, z2, z3, z4, z5⟩, ⟨z6, z7, z8, z9, z10, z11⟩, zf⟩ := Msg.cells12' reU
      obtain ⟨u0, u1, u2, u3, uf⟩ := cells4 rU
      obtain ⟨y0, y1, y2, y3, yf⟩ := cells4 rV
      by_cases hid : R.id = eb
      · have hd : (R.id != eb) = false := by rw [hid]; simp
        clear hid HS
        go_wp2_with fail
        go_roundw
        case rel => exact ⟨k + 1, by omega, by go_num, hbu⟩
        case measure => simp [Go.RowKit.intOf]; omega
      · have hd : (R.id != eb) = true := bne_iff_ne.2 hid
        have hQR := HS.out hid
        subst hQR
        have cs := Fib.same_any Q _ _ _ _ U HQ.out.1 HQ.out.2 HXR.out.1 HXR.out.2
        clear HS hid
        go_wp2_with fail
        go_at_call 23; refine cs.mono ?_; rintro x w10 ⟨rfl, hb10⟩
        have hW := below2 hbu hb10
        clear u0 u1 u2 u3 uf y0 y1 y2 y3 yf z0 z1 z2 z3 z4 z5 z6 z7 z8 z9 z10 z11 zf cs
        go_wp2_with fail
        go_roundw
        case rel => exact ⟨k + 1, by omega, by go_num, hW⟩
        case measure => simp [Go.RowKit.intOf]; omega
    · have hkn2 : k = ln := by omega
      subst hkn2
      have hkd : decide ((k : Int) < (k : Int)) = false := decide_eq_false (by omega)
      have cf := HF2.out eb
      rw [HE.out.1] at cf
      have HU : Hid ((findN N eb).1.up = !decide (ea = 2)) := HE.out.2
      generalize (findN N eb).1 = Q at cf HU
      replace re := RowAt.below re hbl
      replace rx := RowAt.below rx hbl
      replace hT := hT.keep hbl
      replace hM := hM.keep hbl
      replace hB := below2 hB hbl
      clear HI hbl hS hL HF2 HX HE rn
      obtain ⟨x0, x1, xf⟩ := cells2 rx
      obtain ⟨e0, e1, e2, e3, e4, e5, e6, e7, e8, e9, e10, e11, ef⟩ := cells12 re
      go_wp2_with fail
      clear x0 x1 xf e0 e1 e2 e3 e4 e5 e6 e7 e8 e9 e10 e11 ef
      go_at_call 17; refine (cf _ _ _ hT hM).mono ?_; rintro e w41 ⟨a1, a2, a3, a4, a5, a6, rfl, hQ1, hQ2, hb⟩
      replace re := RowAt.below re hb
      replace rx := RowAt.below rx hb
      replace hT := hT.keep hb
      replace hM := hM.keep hb
      replace hB := below2 hB hb
      clear hb
      clear hQ1 hQ2 cf
      obtain ⟨Y42, hY⟩ : ∃ Y, Y = (w41.alloc (.cells #[.int .i64 Q.id, .bool Q.up, .slice a1 a2 a3, .slice a4 a5 a6] 51)) := ⟨_, rfl⟩
      have hbY : Below w41.heap.size w41 Y42 := by rw [hY]; exact below_new (Below.refl _ _) _
      have hle : w.heap.size ≤ w41.heap.size := hB.size
      obtain ⟨gq, hgq⟩ : ∃ g, g = w41.heap.size := ⟨_, rfl⟩
      have rq : RowAt Y42 gq [.int .i64 Q.id, .bool Q.up, .slice a1 a2 a3, .slice a4 a5 a6] 51 := by
        have h := RowAt.new w41 [.int .i64 Q.id, .bool Q.up, .slice a1 a2 a3, .slice a4 a5 a6] 51
        rw [hgq, hY]; exact h
      have leq : w.heap.size ≤ gq := by omega
      have neeq : ge ≠ gq := by have := RowAt.lt re; omega
      have nexq : gx ≠ gq := by have := RowAt.lt rx; omega
      replace re := RowAt.below re hbY
      replace rx := RowAt.below rx hbY
      replace hT := hT.keep hbY
      replace hM := hM.keep hbY
      replace hB := below2 hB hbY
      go_upto_region 16 with fail
      rw [← hY, ← hgq]
      clear hY hbY hle hgq
      obtain ⟨x0, x1, xf⟩ := cells2 rx
      go_wp2_with fail
      clear x0 x1 xf
      go_at_call 15; refine (c2 _ _ _ hT hM).mono ?_; rintro e w43 ⟨rfl, hb⟩
      replace re := RowAt.below re hb
      replace rx := RowAt.below rx hb
      replace rq := RowAt.below rq hb
      replace hT := hT.keep hb
      replace hM := hM.keep hb
      replace hB := below2 hB hb
      clear hb
      obtain ⟨q0, q1, q2, q3, qf⟩ := cells4 rq
      obtain ⟨e0, e1, e2, e3, e4, e5, e6, e7, e8, e9, e10, e11, ef⟩ := cells12 re
      have hup : Q.up = (ea != 2) := by
        rw [HU.out]
        by_cases h2 : ea = 2
        · rw [h2]; rfl
        · rw [decide_eq_false h2, bne_iff_ne.2 h2]; rfl
      generalize hqu : Q.up = qu at *
      subst hup
      cases hk2 : (ea != 2)
      · go_wp2_with fail
        go_ret
        exact ⟨by first | rfl | simp_all, hB⟩
      · go_wp2_with fail
        go_ret
        exact ⟨by first | rfl | simp_all, hB⟩
theorem fit_applyN {n : NetT} {e : Ev} {h : Int} (hf : FitN n) (he : FitE e) : FitN (applyN n e h).1 := by
  unfold applyN
  cases hok : okN n with
  | false => exact fitz
  | true =>
    simp only [if_true]
    split
    · exact fitz
    · exact fit_take hf hok he
theorem walk (n : NetT) (x y : Value) (e : Ev) (h : Int) (w : World) (b0 : HasSts w x n.seats) (c0 : HasRos w y n.ros) (f0 : FitN n) (b1 : FitE e) (b2 : -9223372036854775808 ≤ h ∧ h ≤ 9223372036854775807) :
    Calls Tryz.prog 5 #[.agg #[x, y], evV e, .int .i64 h] w fun e w' => e = .returned (.bool true) ∧ Below w.heap.size w w' := by
  obtain ⟨so, sc, rfl, _⟩ := Ord.HasRow.slice b0
  obtain ⟨lo, lc, rfl, q1, q2⟩ := HasRos.slice c0
  have c1 := fun W u v h1 h2 => apply_any n e h u v W h1 h2 f0 b1
  by_cases h0 : (applyN n e h).2 = 0
  · rw [h0] at c1
    obtain ⟨r1, r2, r3, r4, r5⟩ := right_net h0
    have hfn : FitN (applyN n e h).1 := fit_applyN f0 b1
    have c2 := fun W u v h1 h2 => Nt.check_any (applyN n e h).1 u v W h1 h2 hfn.ros
    rw [show checkN (applyN n e h).1 = 0 by unfold checkN; rw [r2]; rfl] at c2
    exact walk_ok so lo _ sc _ lc (e.kind : Int) e.router (e.seq : Int) e.time e.pf.six (hiN e.pf.n : Int) (loN e.pf.n : Int) e.pf.len (e.act.k : Int) e.act.i e.iface e.peer h n.seats n.ros (applyN n e h).1 0 w b0 c0 c1 rfl (by omega) hfn r3 ⟨r4, by rw [r5]; congr 1; exact decide_eq_decide.2 (by omega)⟩ c2
  · by_cases h2 : (applyN n e h).2 = 2 ∨ (applyN n e h).2 = 1
    · exact walk_form so lo _ sc _ lc (e.kind : Int) e.router (e.seq : Int) e.time e.pf.six (hiN e.pf.n : Int) (loN e.pf.n : Int) e.pf.len (e.act.k : Int) e.act.i e.iface e.peer h n.seats n.ros (applyN n e h).1 _ w b0 c0 c1 h2 (apply_form_z h2)
    · exact walk_other so lo _ sc _ lc (e.kind : Int) e.router (e.seq : Int) e.time e.pf.six (hiN e.pf.n : Int) (loN e.pf.n : Int) e.pf.len (e.act.k : Int) e.act.i e.iface e.peer h n.seats n.ros (applyN n e h).1 _ w b0 c0 c1 (fun g => h2 (.inl g)) (fun g => h2 (.inr g)) h0 (apply_other h0 (fun g => h2 (.inl g)) (fun g => h2 (.inr g)))

set_option maxRecDepth 100000 in
theorem lifted (os : Os) (started : os.Started) (H : Type) (enc : TypeId × Value → H) :
    ReturnsInHanded {} Tryz.checked os 5 .any (Rows.netRightSpec.pre6 enc Tryz.prog Tryz.f5 Rows.netRightRow.domain false) (Rows.netRightSpec.post enc Tryz.prog Tryz.f5 false true false false) := by
  refine returnsInHanded_of_change_sized (C := Tryz.checked) own started (by kernel_rfl) Tryz.func5
    (ChangeSpec.witness6 (enc := enc) (C := Tryz.checked) false ⟨#[], #[.agg #[.slice none 0 0, .slice none 0 0], .agg #[.int .u8 0, .int .i64 0, .int .u64 0, .int .i64 0, .bool false, .int .u64 0, .int .u64 0, .int .i64 0, .int .u8 0, .int .i64 0, .int .i64 0, .int .i64 0], .int .i64 0], []⟩ 8 (by kernel_rfl) (by kernel_rfl) (by kernel_rfl) (by kernel_rfl)) ?_
  intro W base args ds gs before hval0 hW _ hsz0 _
  have hsz : (DataW.weightsEach Tryz.prog (Tryz.f5.params.toList ++ Rows.netRightSpec.plain.varTypes Tryz.prog) (ds ++ gs)).all (· ≤ reachBytes) = true := hsz0
  clear hsz0
  have hval : ∀ (j : Nat) t v, Tryz.f5.params[j]? = some t → args[j]? = some v → Value.okWide Tryz.prog W .any base t v := hval0
  have hW' := hW
  obtain ⟨p, q, hA0, hV, rfl, hfz, hnd⟩ := hW
  have hA : DataW.TrodAll enc Tryz.prog W 0 (fun _ => true) true Tryz.f5.params.toList args.toList ds p := hA0
  rw [Tryz.params5] at hA hval hsz
  obtain ⟨v0, vs0, d0, ds0, p0, q0, hargs, rfl, rfl, h0, r0⟩ := trodAll_cons hA
  obtain ⟨v1, vs1, d1, ds1, p1, q1, rfl, rfl, rfl, h1, r1⟩ := trodAll_cons r0
  obtain ⟨v2, vs2, d2, ds2, p2, q2, rfl, rfl, rfl, h2, r2⟩ := trodAll_cons r1
  obtain ⟨rfl, rfl, rfl⟩ := trodAll_nil r2
  obtain rfl : args = #[v0, v1, v2] := by cases args; simp_all
  obtain ⟨rfl, rfl⟩ := trodVars_none hV
  have k0 := h0
  have lt0 : ∀ x ∈ p0, x.block < W.heap.size := by obtain ⟨m, hm⟩ := k0; exact DataW.trod_lt m _ _ _ hm
  obtain ⟨N0, x0, y0, rfl, b0, c0, f0⟩ := Nt.open_net (hval 0 25 v0 rfl rfl) h0
  have k1 := h1
  have lt1 : ∀ x ∈ p1, x.block < W.heap.size := by obtain ⟨m, hm⟩ := k1; exact DataW.trod_lt m _ _ _ hm
  obtain ⟨n1, rfl, b1⟩ := Msg.open_event (hval 1 38 v1 rfl rfl) h1
  obtain ⟨a2, rfl, rfl, rfl, w2⟩ := open_int Tryz.underlying2 (hval 2 2 v2 rfl rfl) h2
  have b2 : -9223372036854775808 ≤ a2 ∧ a2 ≤ 9223372036854775807 := by simpa [Lit.wf, IntKind.min, IntKind.max, IntKind.signed, IntKind.bits] using w2
  clear hA0 hval0
  refine (walk N0 x0 y0 n1 a2 W b0 c0 f0 b1 b2).mono fun e W' ⟨he, bel⟩ => ?_
  subst he
  exact ⟨_, rfl, _, _, _, [], _, [], hW', trodAll_mk1 (shut_bool Tryz.underlying4 _), (trodAll_cons_mk (Below.trod laidOut (by kernel_rfl) (of_decide_eq_true (by kernel_rfl)) k0 bel lt0) (trodAll_cons_mk (Below.trod laidOut (by kernel_rfl) (of_decide_eq_true (by kernel_rfl)) k1 bel lt1) (trodAll_cons_mk (shut_int Tryz.underlying2 w2) trodAll_mk0))), rfl, bel.frame _, fun h => by cases h⟩

theorem over : Rows.netRightRow.holds Tryz.pinned (OpenSpec.ofChange Rows.netRightSpec) :=
  OpenClaim.holds_of_wide 5 Tryz.f5 rfl rfl rfl rfl rfl rfl rfl ⟨rfl, rfl, rfl, rfl, rfl⟩ rfl rfl rfl rfl rfl (by kernel_rfl) Tryz.func5 (by kernel_rfl)
    (of_decide_eq_true (by kernel_rfl)) (by unfold Func.isWrapper; first | (rw [if_pos (by decide +kernel)]; kernel_rfl) | (rw [if_neg (by decide +kernel)]; exact ⟨rfl, rfl⟩))
    (fun os started H enc _ => lifted os started H enc)
end netRight
theorem nright_holds : Rows.NetRightSaid := netRight.over
#print axioms nright_holds
end Go.Proofs.YtbglbegljkgknaaGreat
