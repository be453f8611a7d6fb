/- The document's happens, plain; its Apply and All of nets. -/
import Derived.Test.YtkjhnefbcnnjlaaGreatNv39
import Derived.Test.YtkjhnefbcnnjlaaGreatNv40
import Derived.Test.YtkjhnefbcnnjlaaGreatNv28
import Derived.Deep.RegionHeld3
set_option linter.unusedVariables false
namespace Go.Proofs.YtkjhnefbcnnjlaaGreat.Nt
open Go.RowKit
open Go.Proofs.YtkjhnefbcnnjlaaGreat.Lk (HasLks HasRow HasLks.keep)
open Go.Proofs.YtkjhnefbcnnjlaaGreat.Tr (HasRts HasRts.keep)
open Go.Proofs.YtkjhnefbcnnjlaaGreat.Msg (Ev FitE evV evC)
open Go.Proofs.YtkjhnefbcnnjlaaGreat.Fib
open Go.Proofs.YtkjhnefbcnnjlaaGreat.Ord (St HasSts HasSts.keep HasEvs HasEvs.keep nextL)
open Go.Proofs.YtkjhnefbcnnjlaaGreat.Addr (RowAt below2 below_drew below_new bset RowAt.lt RowAt.cell RowAt.below RowAt.drew RowAt.new RowAt.alloc RowAt.set1 RowAt.far1 gset grefl cells2 hiN loN)
def gF (L : List Ro) (r : Int) : Ro := (firstR L r).getD zeroRo
theorem gF_own {n : NetT} (h : okN n = true) {R : Ro} (hR : R ∈ n.ros) : gF n.ros R.id = R := by
  obtain ⟨_, _, p3, p4⟩ := pos_parts n.ros R.id (ros_up h)
  obtain ⟨f1, f2⟩ := first_is h R.id
  unfold gF
  cases hi : isN n.ros R.id with
  | false => exact absurd rfl (p4 hi R hR)
  | true => rw [f1 hi]; exact up_oneR (ros_up h) (p3 hi).1 hR (p3 hi).2
theorem map_filter (p : Int → Bool) (g : Int → Ro) : ∀ {l : List Ro} {t : List St}, eachR l t = true → l.length = t.length → (∀ R ∈ l, g R.id = R) → (t.filter (fun s => p s.router)).map (fun s => g s.router) = l.filter (fun R => p R.id) := by
  intro l
  induction l with
  | nil =>
    intro t _ hl _
    have : t = [] := List.eq_nil_of_length_eq_zero hl.symm
    subst this
    rfl
  | cons R l ih =>
    intro t h hl hg
    cases t with
    | nil => cases h
    | cons s t =>
      simp only [eachR, Bool.and_eq_true] at h
      have i1 := ih h.2 (by simpa using hl) (fun x hx => hg x (List.mem_cons_of_mem _ hx))
      have he := (fitsR_ok h.1).2.1
      cases hp : p R.id with
      | false =>
        rw [List.filter_cons_of_neg (p := fun R : Ro => p R.id) (by rw [hp]; decide), List.filter_cons_of_neg (p := fun s : St => p s.router) (by rw [← he, hp]; decide)]
        exact i1
      | true =>
        rw [List.filter_cons_of_pos (p := fun R : Ro => p R.id) hp, List.filter_cons_of_pos (p := fun s : St => p s.router) (by rw [← he]; exact hp), List.map_cons, i1, ← he, hg R List.mem_cons_self]
theorem hap_ros {n : NetT} {e : Ev} {h : Int} (hok : okN n = true) (hz : (nextL n.seats e h).2 = 0) (A : Ro) : (nextL n.seats e h).1.map (fun s => if s.router = e.router then A else gF n.ros s.router) = putN n.ros e.router A := by
  obtain ⟨h1, h2, h3, h4⟩ := okN_parts hok
  rw [next_is hz, put_parts hok]
  unfold Ord.seatedL Ord.ahead Ord.behind
  rw [List.map_append, List.map_append]
  have m1 : (n.seats.filter (fun s => decide (s.router < e.router))).map (fun s => if s.router = e.router then A else gF n.ros s.router) = n.ros.filter (fun R => decide (R.id < e.router)) := by
    rw [← map_filter (fun x => decide (x < e.router)) (gF n.ros) h3 h2 (fun R hR => gF_own hok hR)]
    refine List.map_congr_left (fun s hs => ?_)
    have := (List.mem_filter.1 hs).2
    simp only [decide_eq_true_eq] at this
    rw [if_neg (by omega)]
  have m2 : (n.seats.filter (fun s => decide (e.router < s.router))).map (fun s => if s.router = e.router then A else gF n.ros s.router) = n.ros.filter (fun R => decide (e.router < R.id)) := by
    rw [← map_filter (fun x => decide (e.router < x)) (gF n.ros) h3 h2 (fun R hR => gF_own hok hR)]
    refine List.map_congr_left (fun s hs => ?_)
    have := (List.mem_filter.1 hs).2
    simp only [decide_eq_true_eq] at this
    rw [if_neg (by omega)]
  rw [m1, m2, List.map_cons, List.map_nil, if_pos rfl]
theorem take_hap {n : NetT} {e : Ev} {h : Int} (hok : okN n = true) : takeN n e h = if Ord.mayL n.seats e h = 0 then (if (applyRo (wasN n.ros e.router) e).2 = 0 then (if (1024 : Int) < (sizeN ((nextL n.seats e h).1.map (fun s => if s.router = e.router then (applyRo (wasN n.ros e.router) e).1 else gF n.ros s.router)) : Int) then (n, 8) else (⟨(nextL n.seats e h).1, (nextL n.seats e h).1.map (fun s => if s.router = e.router then (applyRo (wasN n.ros e.router) e).1 else gF n.ros s.router)⟩, 0)) else (n, (applyRo (wasN n.ros e.router) e).2)) else (n, Ord.mayL n.seats e h) := by
  rw [← Ord.next_may]
  unfold takeN
  by_cases hz : (nextL n.seats e h).2 = 0
  · rw [if_pos hz, if_pos hz, hap_ros hok hz]
    by_cases ha : (applyRo (wasN n.ros e.router) e).2 = 0
    · rw [if_pos ha, if_pos ha]
      by_cases hs : 1024 < sizeN (putN n.ros e.router (applyRo (wasN n.ros e.router) e).1)
      · rw [if_pos hs, if_pos (by omega)]
      · rw [if_neg hs, if_neg (by omega)]
    · rw [if_neg ha, if_neg ha]
  · rw [if_neg hz, if_neg hz]
theorem happens_any (n : NetT) (e : Ev) (h : Int) (u v : Value) (w : World) (hS : HasSts w u n.seats) (hL : HasRos w v n.ros) (hf : FitN n) (he : FitE e) (hok : okN n = true) :
    Calls Tryz.prog 16 #[.agg #[u, v], evV e, .int .i64 h] w (NetIs (takeN n e h).1 (takeN n e h).2 w) := by
  obtain ⟨so, sc, rfl, _⟩ := Ord.HasRow.slice hS
  obtain ⟨lo, lc, rfl, _⟩ := HasRos.slice hL
  have cM := fun W (h1 : HasSts W (.slice so n.seats.length sc) n.seats) => Ord.rmay_any n.seats (.slice so n.seats.length sc) e h W h1 he
  have cF := fun W (h1 : HasSts W (.slice so n.seats.length sc) n.seats) (h2 : HasRos W (.slice lo n.ros.length lc) n.ros) => rfind_any n e.router _ _ W h1 h2
  have cG : ∀ W (w0 : World) (id : Int), HasSts W (.slice so n.seats.length sc) n.seats → HasRos w0 (.slice lo n.ros.length lc) n.ros → Below w0.heap.size w0 W → Calls Tryz.prog 36 #[.agg #[.slice so n.seats.length sc, .slice lo n.ros.length lc], .int .i64 id] W fun e w' => ∃ b, FdOf w0 (gF n.ros id) b W e w' := fun W w0 id h1 h2 h3 => by
    refine (rfind_of n id _ _ W h1 w0 h2 h3).mono ?_
    intro x w' hx
    exact ⟨_, hx⟩
  have cK := fun W => Fib.rmake_any e.router W
  have hwf := fit_was hf hok he.router
  have cA := fun W a b (h1 : HasRts W a (wasN n.ros e.router).rts) (h2 : HasLks W b (wasN n.ros e.router).lks) => Fib.rapply_any (wasN n.ros e.router) e a b W h1 h2 hwf he
  have cN : ∀ W, HasSts W (.slice so n.seats.length sc) n.seats → Calls Tryz.prog 39 #[.slice so n.seats.length sc, evV e, .int .i64 h] W fun x w' => ∃ o n1 m, x = .returned (.tuple #[.slice o n1 m, .int .i64 (nextL n.seats e h).2]) ∧ HasSts w' (.slice o n1 m) (nextL n.seats e h).1 ∧ Below W.heap.size W w' := fun W h1 => by
    refine (Ord.rnext_any n.seats _ e h W h1 he).mono ?_
    rintro x w' ⟨u, rfl, h2, h3⟩
    obtain ⟨o, c, rfl, _⟩ := Ord.HasRow.slice h2
    exact ⟨_, _, _, rfl, h2, h3⟩
  have hpo : Ord.mayL n.seats e h = 0 → (applyRo (wasN n.ros e.router) e).2 = 0 → (putN n.ros e.router (applyRo (wasN n.ros e.router) e).1).length ≤ 65 ∧ ∀ R ∈ putN n.ros e.router (applyRo (wasN n.ros e.router) e).1, okRo R = true := fun h1 h2 => by
    refine put_ok hok ?_
    rcases apply_cases (wasN n.ros e.router) e with g | g | g
    · exact g.2.2.2.2.2.1
    · rw [g.1] at h2; exact absurd h2 (by decide)
    · exact absurd h2 g.1
  have hmp : Ord.mayL n.seats e h = 0 → (nextL n.seats e h).1.map (fun s => if s.router = e.router then (applyRo (wasN n.ros e.router) e).1 else gF n.ros s.router) = putN n.ros e.router (applyRo (wasN n.ros e.router) e).1 := fun h1 => hap_ros hok (by rw [Ord.next_may]; exact h1) _
  have cY : Ord.mayL n.seats e h = 0 → (applyRo (wasN n.ros e.router) e).2 = 0 → ∀ W v, HasRos W v ((nextL n.seats e h).1.map (fun s => if s.router = e.router then (applyRo (wasN n.ros e.router) e).1 else gF n.ros s.router)) → Calls Tryz.prog 27 #[v] W fun x w' => x = .returned (.int .i64 (sizeN ((nextL n.seats e h).1.map (fun s => if s.router = e.router then (applyRo (wasN n.ros e.router) e).1 else gF n.ros s.router)) : Int)) ∧ Below W.heap.size W w' := fun h1 h2 W v h3 => by
    obtain ⟨p1, p2⟩ := hpo h1 h2
    refine rmany_any _ v W h3 (by rw [hmp h1]; omega) (fun R hR => ?_)
    rw [hmp h1] at hR
    have := okRo_many (p2 R hR)
    unfold manyR
    omega
  have hn2 : Ord.mayL n.seats e h = 0 → (applyRo (wasN n.ros e.router) e).2 = 0 → (nextL n.seats e h).1.length ≤ 1000 := fun h1 h2 => by
    have := congrArg List.length (hmp h1)
    rw [List.length_map] at this
    have := (hpo h1 h2).1
    omega
  obtain ⟨f1, f2⟩ := first_is hok e.router
  cases hi : isN n.ros e.router with
  | true =>
    have e1 := f1 hi
    rw [e1] at cF
    exact hap_some so lo _ sc _ lc _ _ _ _ _ _ _ _ _ _ _ _ h _ _ _ 0 0 _ n.seats (nextL n.seats e h).1 n.ros (wasN n.ros e.router) (wasN n.ros e.router) (applyRo (wasN n.ros e.router) e).1 (gF n.ros) _ w hS hL cM cF cG cA cN cY hn2 rfl (take_hap hok)
  | false =>
    have e1 := f2 hi
    rw [e1] at cF
    have hw : wasN n.ros e.router = (makeRo e.router).1 := by unfold wasN; rw [hi]; rfl
    have cK2 : ∀ W, Calls Tryz.prog 37 #[.int .i64 e.router] W (RoIs (wasN n.ros e.router) (makeRo e.router).2 W) := fun W => by rw [hw]; exact cK W
    exact hap_none so lo _ sc _ lc _ _ _ _ _ _ _ _ _ _ _ _ h _ _ _ 0 _ _ n.seats (nextL n.seats e h).1 n.ros zeroRo (wasN n.ros e.router) (applyRo (wasN n.ros e.router) e).1 (gF n.ros) _ w hS hL cM cF cG cK2 cA cN cY hn2 trivial (take_hap hok)
theorem rk1 {W W' : World} {cs : List Value} {t : TypeId} (h : Below (W.alloc (.cells cs.toArray t)).heap.size (W.alloc (.cells cs.toArray t)) W') : RowAt W' W.heap.size cs t := (RowAt.new W cs t).below h
theorem rk2 {W W' : World} {cs : List Value} {t : TypeId} (h : Below (W.alloc (.cells cs.toArray t)).drew.heap.size (W.alloc (.cells cs.toArray t)).drew W') : RowAt W' W.heap.size cs t := (RowAt.new W cs t).drew.below h
theorem rk3 {W W' : World} {cs : List Value} {t : TypeId} (h : Below (W.drew.alloc (.cells cs.toArray t)).heap.size (W.drew.alloc (.cells cs.toArray t)) W') : RowAt W' W.heap.size cs t := (RowAt.new W.drew cs t).below h
/-- the box of what happened -/
structure HG (w W : World) (g : Nat) (u v : Value) (n : NetT) : Prop where
  row : RowAt W g [u, v] 25
  sts : HasSts W u n.seats
  ros : HasRos W v n.ros
  bl : Below w.heap.size w W
  lt : w.heap.size ≤ g
theorem hg_new {w w5 : World} {u v : Value} {n : NetT} (hb : Below w.heap.size w w5) (hT : HasSts w5 u n.seats) (hM : HasRos w5 v n.ros) : HG w (w5.alloc (.cells #[u, v] 25)) w5.heap.size u v n :=
  ⟨RowAt.new w5 [u, v] _, hT.keep (below_new (Below.refl _ _) _), hM.keep (below_new (Below.refl _ _) _), below_new hb _, hb.size⟩
theorem hg_at {w w5 : World} {o1 o2 : Option Addr} {a1 b1 a2 b2 g : Nat} {n : NetT} (hb : Below w.heap.size w w5) (hE : RowAt w5 g [.slice none 0 0, .slice none 0 0] 25) (hg : w.heap.size ≤ g) (hT : HasSts w5 (.slice o1 a1 b1) n.seats) (hM : HasRos w5 (.slice o2 a2 b2) n.ros) : HG w ((w5.setCell ⟨g, 0, none⟩ (.slice o1 a1 b1)).setCell ⟨g, 1, none⟩ (.slice o2 a2 b2)) g (.slice o1 a1 b1) (.slice o2 a2 b2) n :=
  ⟨(hE.set1 0 _).set1 1 _, sts_off hT hE (gset (gset (grefl _ _))), ros_off hM hE (gset (gset (grefl _ _))), bset (bset hb hg) hg, hg⟩
set_option maxHeartbeats 16000000 in
set_option maxRecDepth 20000 in
theorem rapply_bad (so lo : Option Addr) (sn sc ln lc : Nat) (ea eb ec ed : Int) (ee : Bool) (ef eg eh ei ej ek el : Int) (h z0 : Int) (S : List St) (L : List Ro) (w : World) (hS : HasSts w (.slice so sn sc) S) (hL : HasRos w (.slice lo ln lc) L) (hz0 : ¬ z0 = 0) (c1 : ∀ W, HasSts W (.slice so sn sc) S → HasRos W (.slice lo ln lc) L → Calls Tryz.prog 12 #[.agg #[.slice so sn sc, .slice lo ln lc]] W fun e w' => e = .returned (.int .i64 z0) ∧ Below W.heap.size W w') :
    Calls Tryz.prog 6 #[.agg #[.slice so sn sc, .slice lo ln lc], .agg #[.int .u8 ea, .int .i64 eb, .int .u64 ec, .int .i64 ed, .bool ee, .int .u64 ef, .int .u64 eg, .int .i64 eh, .int .u8 ei, .int .i64 ej, .int .i64 ek, .int .i64 el], .int .i64 h] w (NetIs zeroN 2 w) := by
  have hB := Below.refl w.heap.size w
  have hzb : (z0 != 0) = true := bne_iff_ne.2 hz0
  go_enter Tryz.func6, Tryz.ntmps6
  obtain ⟨Y1, hY⟩ : ∃ Y, Y = (((w.alloc (.cells #[.slice so sn sc, .slice lo ln lc] 25)).alloc (.cells #[.int .u8 ea, .int .i64 eb, .int .u64 ec, .int .i64 ed, .bool ee, .int .u64 ef, .int .u64 eg, .int .i64 eh, .int .u8 ei, .int .i64 ej, .int .i64 ek, .int .i64 el] 38)).alloc (.cells #[.slice none 0 0, .slice none 0 0] 25)) := ⟨_, rfl⟩
  have hbY : Below w.heap.size w Y1 := by rw [hY]; exact below_new (below_new (below_new (Below.refl _ _) _) _) _
  have hle : w.heap.size ≤ w.heap.size := hB.size
  obtain ⟨gn, hgn⟩ : ∃ g, g = w.heap.size := ⟨_, rfl⟩
  have rn : RowAt Y1 gn [.slice so sn sc, .slice lo ln lc] 25 := by
    have h := ((RowAt.new w [.slice so sn sc, .slice lo ln lc] 25).alloc (.cells #[.int .u8 ea, .int .i64 eb, .int .u64 ec, .int .i64 ed, .bool ee, .int .u64 ef, .int .u64 eg, .int .i64 eh, .int .u8 ei, .int .i64 ej, .int .i64 ek, .int .i64 el] 38)).alloc (.cells #[.slice none 0 0, .slice none 0 0] 25)
    rw [hgn, hY]; exact h
  have len : w.heap.size ≤ gn := by omega
  obtain ⟨ge, hge⟩ : ∃ g, g = w.heap.size + 1 := ⟨_, rfl⟩
  have re : RowAt Y1 ge [.int .u8 ea, .int .i64 eb, .int .u64 ec, .int .i64 ed, .bool ee, .int .u64 ef, .int .u64 eg, .int .i64 eh, .int .u8 ei, .int .i64 ej, .int .i64 ek, .int .i64 el] 38 := by
    have h := (RowAt.new (w.alloc (.cells #[.slice so sn sc, .slice lo ln lc] 25)) [.int .u8 ea, .int .i64 eb, .int .u64 ec, .int .i64 ed, .bool ee, .int .u64 ef, .int .u64 eg, .int .i64 eh, .int .u8 ei, .int .i64 ej, .int .i64 ek, .int .i64 el] 38).alloc (.cells #[.slice none 0 0, .slice none 0 0] 25)
    simp only [World.size_alloc] at h
    rw [hge, hY]; exact h
  have lee : w.heap.size ≤ ge := by omega
  have nene : gn ≠ ge := by omega
  obtain ⟨gz, hgz⟩ : ∃ g, g = w.heap.size + 1 + 1 := ⟨_, rfl⟩
  have rz : RowAt Y1 gz [.slice none 0 0, .slice none 0 0] 25 := by
    have h := RowAt.new ((w.alloc (.cells #[.slice so sn sc, .slice lo ln lc] 25)).alloc (.cells #[.int .u8 ea, .int .i64 eb, .int .u64 ec, .int .i64 ed, .bool ee, .int .u64 ef, .int .u64 eg, .int .i64 eh, .int .u8 ei, .int .i64 ej, .int .i64 ek, .int .i64 el] 38)) [.slice none 0 0, .slice none 0 0] 25
    simp only [World.size_alloc] at h
    rw [hgz, hY]; exact h
  have lez : w.heap.size ≤ gz := by omega
  have nenz : gn ≠ gz := by omega
  have neez : ge ≠ gz := by omega
  replace hS := hS.keep hbY
  replace hL := hL.keep hbY
  replace hB := below2 hB hbY
  go_upto_region 1 with fail
  rw [← hY, ← hgz, ← hge, ← hgn]
  clear hY hbY hle hgn hge hgz
  obtain ⟨n0, n1, nf⟩ := cells2 rn
  go_wp2_with fail
  clear n0 n1 nf
  go_at_call 12; refine (c1 _ hS hL).mono ?_; rintro e w2 ⟨rfl, hb⟩
  replace rn := RowAt.below rn hb
  replace re := RowAt.below re hb
  replace rz := RowAt.below rz hb
  replace hS := hS.keep hb
  replace hL := hL.keep hb
  replace hB := below2 hB hb
  clear hb
  obtain ⟨zz0, zz1, zzf⟩ := cells2 rz
  go_wp2_with fail
  (try simp only [Exit.inBlock, Exit.then])
  refine bodyPost_ret (v := .tuple #[.agg #[.slice none 0 0, .slice none 0 0], .int .i64 2]) ?_ rfl ⟨_, _, _, _, _, _, rfl, Ord.hasRow_nil _ 4, hasRos_nil _, bset (bset hB lez) lez⟩
  · rw [results_cell_tmp rfl]
    go_simp
set_option maxHeartbeats 32000000 in
set_option maxRecDepth 20000 in
theorem rapply_form (so lo : Option Addr) (sn sc ln lc : Nat) (ea eb ec ed : Int) (ee : Bool) (ef eg eh ei ej ek el : Int) (h z : Int) (N : NetT) (S : List St) (L : List Ro) (w : World) (hS : HasSts w (.slice so sn sc) S) (hL : HasRos w (.slice lo ln lc) L) (hz : z = 2 ∨ z = 1) (c1 : ∀ W, HasSts W (.slice so sn sc) S → HasRos W (.slice lo ln lc) L → Calls Tryz.prog 12 #[.agg #[.slice so sn sc, .slice lo ln lc]] W fun e w' => e = .returned (.int .i64 0) ∧ Below W.heap.size W w') (c2 : ∀ W, HasSts W (.slice so sn sc) S → HasRos W (.slice lo ln lc) L → Calls Tryz.prog 4 #[.agg #[.slice so sn sc, .slice lo ln lc]] W fun e w' => ∃ o1 n1 m1 o2 n2 m2, e = .returned (.agg #[.slice o1 n1 m1, .slice o2 n2 m2]) ∧ HasSts w' (.slice o1 n1 m1) S ∧ HasRos w' (.slice o2 n2 m2) L ∧ Below W.heap.size W w') (c3 : ∀ W so lo sn sc ln lc, HasSts W (.slice so sn sc) S → HasRos W (.slice lo ln lc) L → Calls Tryz.prog 16 #[.agg #[.slice so sn sc, .slice lo ln lc], .agg #[.int .u8 ea, .int .i64 eb, .int .u64 ec, .int .i64 ed, .bool ee, .int .u64 ef, .int .u64 eg, .int .i64 eh, .int .u8 ei, .int .i64 ej, .int .i64 ek, .int .i64 el], .int .i64 h] W (NetIs N z W)) :
    Calls Tryz.prog 6 #[.agg #[.slice so sn sc, .slice lo ln lc], .agg #[.int .u8 ea, .int .i64 eb, .int .u64 ec, .int .i64 ed, .bool ee, .int .u64 ef, .int .u64 eg, .int .i64 eh, .int .u8 ei, .int .i64 ej, .int .i64 ek, .int .i64 el], .int .i64 h] w (NetIs zeroN z w) := by
  have hB := Below.refl w.heap.size w
  go_enter Tryz.func6, Tryz.ntmps6
  obtain ⟨Y1, hY⟩ : ∃ Y, Y = (((w.alloc (.cells #[.slice so sn sc, .slice lo ln lc] 25)).alloc (.cells #[.int .u8 ea, .int .i64 eb, .int .u64 ec, .int .i64 ed, .bool ee, .int .u64 ef, .int .u64 eg, .int .i64 eh, .int .u8 ei, .int .i64 ej, .int .i64 ek, .int .i64 el] 38)).alloc (.cells #[.slice none 0 0, .slice none 0 0] 25)) := ⟨_, rfl⟩
  have hbY : Below w.heap.size w Y1 := by rw [hY]; exact below_new (below_new (below_new (Below.refl _ _) _) _) _
  have hle : w.heap.size ≤ w.heap.size := hB.size
  obtain ⟨gn, hgn⟩ : ∃ g, g = w.heap.size := ⟨_, rfl⟩
  have rn : RowAt Y1 gn [.slice so sn sc, .slice lo ln lc] 25 := by
    have h := ((RowAt.new w [.slice so sn sc, .slice lo ln lc] 25).alloc (.cells #[.int .u8 ea, .int .i64 eb, .int .u64 ec, .int .i64 ed, .bool ee, .int .u64 ef, .int .u64 eg, .int .i64 eh, .int .u8 ei, .int .i64 ej, .int .i64 ek, .int .i64 el] 38)).alloc (.cells #[.slice none 0 0, .slice none 0 0] 25)
    rw [hgn, hY]; exact h
  have len : w.heap.size ≤ gn := by omega
  obtain ⟨ge, hge⟩ : ∃ g, g = w.heap.size + 1 := ⟨_, rfl⟩
  have re : RowAt Y1 ge [.int .u8 ea, .int .i64 eb, .int .u64 ec, .int .i64 ed, .bool ee, .int .u64 ef, .int .u64 eg, .int .i64 eh, .int .u8 ei, .int .i64 ej, .int .i64 ek, .int .i64 el] 38 := by
    have h := (RowAt.new (w.alloc (.cells #[.slice so sn sc, .slice lo ln lc] 25)) [.int .u8 ea, .int .i64 eb, .int .u64 ec, .int .i64 ed, .bool ee, .int .u64 ef, .int .u64 eg, .int .i64 eh, .int .u8 ei, .int .i64 ej, .int .i64 ek, .int .i64 el] 38).alloc (.cells #[.slice none 0 0, .slice none 0 0] 25)
    simp only [World.size_alloc] at h
    rw [hge, hY]; exact h
  have lee : w.heap.size ≤ ge := by omega
  have nene : gn ≠ ge := by omega
  obtain ⟨gz, hgz⟩ : ∃ g, g = w.heap.size + 1 + 1 := ⟨_, rfl⟩
  have rz : RowAt Y1 gz [.slice none 0 0, .slice none 0 0] 25 := by
    have h := RowAt.new ((w.alloc (.cells #[.slice so sn sc, .slice lo ln lc] 25)).alloc (.cells #[.int .u8 ea, .int .i64 eb, .int .u64 ec, .int .i64 ed, .bool ee, .int .u64 ef, .int .u64 eg, .int .i64 eh, .int .u8 ei, .int .i64 ej, .int .i64 ek, .int .i64 el] 38)) [.slice none 0 0, .slice none 0 0] 25
    simp only [World.size_alloc] at h
    rw [hgz, hY]; exact h
  have lez : w.heap.size ≤ gz := by omega
  have nenz : gn ≠ gz := by omega
  have neez : ge ≠ gz := by omega
  replace hS := hS.keep hbY
  replace hL := hL.keep hbY
  replace hB := below2 hB hbY
  go_upto_region 1 with fail
  rw [← hY, ← hgz, ← hge, ← hgn]
  clear hY hbY hle hgn hge hgz
  obtain ⟨n0, n1, nf⟩ := cells2 rn
  go_wp2_with fail
  clear n0 n1 nf
  go_at_call 12; refine (c1 _ hS hL).mono ?_; rintro e w2 ⟨rfl, hb⟩
  replace rn := RowAt.below rn hb
  replace re := RowAt.below re hb
  replace rz := RowAt.below rz hb
  replace hS := hS.keep hb
  replace hL := hL.keep hb
  replace hB := below2 hB hb
  clear hb
  clear c1
  go_upto_region 3 with fail
  go_cut [8, 9] (fun d8 l9 wc => ∃ (g2 : Nat) (p1 p2 : Option Addr) (q1 s1 q2 s2 : Nat), d8 = .pointer (some ⟨g2, 0, none⟩) ∧ l9 = .int .i64 z ∧ Hid (HG w2 wc g2 (.slice p1 q1 s1) (.slice p2 q2 s2) N))
  case first =>
    have hbA : Below w2.heap.size w2 w2 := Below.refl _ _
    have HSK : Hid (∀ V : World, Below w2.heap.size w2 V → V.cell? ⟨gn, 0, none⟩ = some (.slice so sn sc) ∧ V.cell? ⟨gn, 1, none⟩ = some (.slice lo ln lc) ∧ V.cell? ⟨ge, 0, none⟩ = some (.int .u8 ea) ∧ V.cell? ⟨ge, 1, none⟩ = some (.int .i64 eb) ∧ V.cell? ⟨ge, 2, none⟩ = some (.int .u64 ec) ∧ V.cell? ⟨ge, 3, none⟩ = some (.int .i64 ed) ∧ V.cell? ⟨ge, 4, none⟩ = some (.bool ee) ∧ V.cell? ⟨ge, 5, none⟩ = some (.int .u64 ef) ∧ V.cell? ⟨ge, 6, none⟩ = some (.int .u64 eg) ∧ V.cell? ⟨ge, 7, none⟩ = some (.int .i64 eh) ∧ V.cell? ⟨ge, 8, none⟩ = some (.int .u8 ei) ∧ V.cell? ⟨ge, 9, none⟩ = some (.int .i64 ej) ∧ V.cell? ⟨ge, 10, none⟩ = some (.int .i64 ek) ∧ V.cell? ⟨ge, 11, none⟩ = some (.int .i64 el)) := fun V hb => by
      obtain ⟨n0, n1, _⟩ := cells2 (RowAt.below rn hb)
      obtain ⟨⟨e0, e1, e2, e3, e4, e5⟩, ⟨e6, e7, e8, e9, e10, e11⟩, _⟩ := Msg.cells12' (RowAt.below re hb)
      exact ⟨n0, n1, e0, e1, e2, e3, e4, e5, e6, e7, e8, e9, e10, e11⟩
    clear rn re rz hB
    go_region_held3 (fun V => V.cell? ⟨gn, 0, none⟩ = some (.slice so sn sc) ∧ V.cell? ⟨gn, 1, none⟩ = some (.slice lo ln lc) ∧ V.cell? ⟨ge, 0, none⟩ = some (.int .u8 ea) ∧ V.cell? ⟨ge, 1, none⟩ = some (.int .i64 eb) ∧ V.cell? ⟨ge, 2, none⟩ = some (.int .u64 ec) ∧ V.cell? ⟨ge, 3, none⟩ = some (.int .i64 ed) ∧ V.cell? ⟨ge, 4, none⟩ = some (.bool ee) ∧ V.cell? ⟨ge, 5, none⟩ = some (.int .u64 ef) ∧ V.cell? ⟨ge, 6, none⟩ = some (.int .u64 eg) ∧ V.cell? ⟨ge, 7, none⟩ = some (.int .i64 eh) ∧ V.cell? ⟨ge, 8, none⟩ = some (.int .u8 ei) ∧ V.cell? ⟨ge, 9, none⟩ = some (.int .i64 ej) ∧ V.cell? ⟨ge, 10, none⟩ = some (.int .i64 ek) ∧ V.cell? ⟨ge, 11, none⟩ = some (.int .i64 el))
      (first
        | (refine HSK.out _ ?_
           repeat' (first | with_reducible exact hbA | with_reducible apply below_drew | with_reducible apply below_new | with_reducible refine bset ?_ (by have := hbA.size; first | omega | (simp; omega))))
        | go_keep)
      (first
        | (go_at_call 4
           refine (c2 _ (hS.keep (by repeat' (first | with_reducible exact hbA | with_reducible apply below_drew | with_reducible apply below_new))) (hL.keep (by repeat' (first | with_reducible exact hbA | with_reducible apply below_drew | with_reducible apply below_new)))).mono ?_
           rintro e w3 ⟨a1, a2, a3, a4, a5, a6, rfl, hT, hM, hb3⟩
           have hbN : Below w2.heap.size w2 w3 := below2 (by repeat' (first | with_reducible exact hbA | with_reducible apply below_drew | with_reducible apply below_new)) hb3
           (first | (have hE : RowAt w3 w2.heap.size [.slice none 0 0, .slice none 0 0] 25 := (by with_reducible first | exact rk1 hb3 | exact rk2 hb3 | exact rk3 hb3); obtain ⟨v0, v1, vf⟩ := cells2 hE; have hEl := hE.lt) | skip)
           clear hbA
           have hbA := hbN
           clear hbN)
        | (go_at_call 16
           refine (c3 _ _ _ _ _ _ _ (hT.keep (by repeat' (first | with_reducible exact Below.refl _ _ | with_reducible apply below_drew | with_reducible apply below_new))) (hM.keep (by repeat' (first | with_reducible exact Below.refl _ _ | with_reducible apply below_drew | with_reducible apply below_new)))).mono ?_
           rintro e w5 ⟨c1, c2, c3, c4, c5, c6, rfl, hT5, hM5, hb5⟩
           have hbN : Below w2.heap.size w2 w5 := below2 (by repeat' (first | with_reducible exact hbA | with_reducible apply below_drew | with_reducible apply below_new)) hb5
           (first
             | (have hE5 : RowAt w5 w2.heap.size [.slice none 0 0, .slice none 0 0] 25 := hE.below (below2 (by repeat' (first | with_reducible exact Below.refl _ _ | with_reducible apply below_drew | with_reducible apply below_new)) hb5); have h35 : w2.heap.size ≤ w2.heap.size := Nat.le_refl _; obtain ⟨v0, v1, vf⟩ := cells2 hE5; have hEl := hE5.lt)
             | (have hE5 : RowAt w5 w3.heap.size [.slice none 0 0, .slice none 0 0] 25 := (by with_reducible first | exact rk1 hb5 | exact rk2 hb5 | exact rk3 hb5); have h35 : w2.heap.size ≤ w3.heap.size := hbA.size; obtain ⟨v0, v1, vf⟩ := cells2 hE5; have hEl := hE5.lt)
             | skip)
           clear hbA
           have hbA := hbN
           clear hbN))
    all_goals go_wp2_with fail
    all_goals go_meet
    all_goals first
      | (refine ⟨_, c1, c4, c2, c3, c5, c6, rfl, rfl, ?_⟩; show HG _ _ _ _ _ _; with_reducible exact hg_new hbA hT5 hM5)
      | (refine ⟨_, c1, c4, c2, c3, c5, c6, rfl, rfl, ?_⟩; show HG _ _ _ _ _ _; with_reducible exact hg_at hbA hE5 h35 hT5 hM5)
  case rest =>
    obtain ⟨g2, p1, p2, q1, s1, q2, s2, rfl, rfl, HGG⟩ := hcut
    replace rz := RowAt.below rz HGG.out.bl
    replace hB := below2 hB HGG.out.bl
    have hT2 := HGG.out.sts
    have hM2 := HGG.out.ros
    have rg := HGG.out.row
    clear HGG rn re hS hL c2 c3
    rcases hz with rfl | rfl
    · obtain ⟨zz0, zz1, zzf⟩ := cells2 rz
      go_wp2_with fail
      (try simp only [Exit.inBlock, Exit.then])
      refine bodyPost_ret (v := .tuple #[.agg #[.slice none 0 0, .slice none 0 0], .int .i64 2]) ?_ rfl ⟨_, _, _, _, _, _, rfl, Ord.hasRow_nil _ 4, hasRos_nil _, bset (bset hB lez) lez⟩
      · rw [results_cell_tmp rfl]
        go_simp
    · obtain ⟨zz0, zz1, zzf⟩ := cells2 rz
      go_wp2_with fail
      (try simp only [Exit.inBlock, Exit.then])
      refine bodyPost_ret (v := .tuple #[.agg #[.slice none 0 0, .slice none 0 0], .int .i64 1]) ?_ rfl ⟨_, _, _, _, _, _, rfl, Ord.hasRow_nil _ 4, hasRos_nil _, bset (bset hB lez) lez⟩
      · rw [results_cell_tmp rfl]
        go_simp
set_option maxHeartbeats 32000000 in
set_option maxRecDepth 20000 in
theorem rapply_ok (so lo : Option Addr) (sn sc ln lc : Nat) (ea eb ec ed : Int) (ee : Bool) (ef eg eh ei ej ek el : Int) (h z : Int) (N : NetT) (S : List St) (L : List Ro) (w : World) (hS : HasSts w (.slice so sn sc) S) (hL : HasRos w (.slice lo ln lc) L) (hz2 : ¬ z = 2) (hz1 : ¬ z = 1) (c1 : ∀ W, HasSts W (.slice so sn sc) S → HasRos W (.slice lo ln lc) L → Calls Tryz.prog 12 #[.agg #[.slice so sn sc, .slice lo ln lc]] W fun e w' => e = .returned (.int .i64 0) ∧ Below W.heap.size W w') (c2 : ∀ W, HasSts W (.slice so sn sc) S → HasRos W (.slice lo ln lc) L → Calls Tryz.prog 4 #[.agg #[.slice so sn sc, .slice lo ln lc]] W fun e w' => ∃ o1 n1 m1 o2 n2 m2, e = .returned (.agg #[.slice o1 n1 m1, .slice o2 n2 m2]) ∧ HasSts w' (.slice o1 n1 m1) S ∧ HasRos w' (.slice o2 n2 m2) L ∧ Below W.heap.size W w') (c3 : ∀ W so lo sn sc ln lc, HasSts W (.slice so sn sc) S → HasRos W (.slice lo ln lc) L → Calls Tryz.prog 16 #[.agg #[.slice so sn sc, .slice lo ln lc], .agg #[.int .u8 ea, .int .i64 eb, .int .u64 ec, .int .i64 ed, .bool ee, .int .u64 ef, .int .u64 eg, .int .i64 eh, .int .u8 ei, .int .i64 ej, .int .i64 ek, .int .i64 el], .int .i64 h] W (NetIs N z W)) :
    Calls Tryz.prog 6 #[.agg #[.slice so sn sc, .slice lo ln lc], .agg #[.int .u8 ea, .int .i64 eb, .int .u64 ec, .int .i64 ed, .bool ee, .int .u64 ef, .int .u64 eg, .int .i64 eh, .int .u8 ei, .int .i64 ej, .int .i64 ek, .int .i64 el], .int .i64 h] w (NetIs N z w) := by
  have hB := Below.refl w.heap.size w
  have hz2b : (z == 2) = false := beq_eq_false_iff_ne.2 hz2
  have hz1b : (z == 1) = false := beq_eq_false_iff_ne.2 hz1
  go_enter Tryz.func6, Tryz.ntmps6
  obtain ⟨Y1, hY⟩ : ∃ Y, Y = (((w.alloc (.cells #[.slice so sn sc, .slice lo ln lc] 25)).alloc (.cells #[.int .u8 ea, .int .i64 eb, .int .u64 ec, .int .i64 ed, .bool ee, .int .u64 ef, .int .u64 eg, .int .i64 eh, .int .u8 ei, .int .i64 ej, .int .i64 ek, .int .i64 el] 38)).alloc (.cells #[.slice none 0 0, .slice none 0 0] 25)) := ⟨_, rfl⟩
  have hbY : Below w.heap.size w Y1 := by rw [hY]; exact below_new (below_new (below_new (Below.refl _ _) _) _) _
  have hle : w.heap.size ≤ w.heap.size := hB.size
  obtain ⟨gn, hgn⟩ : ∃ g, g = w.heap.size := ⟨_, rfl⟩
  have rn : RowAt Y1 gn [.slice so sn sc, .slice lo ln lc] 25 := by
    have h := ((RowAt.new w [.slice so sn sc, .slice lo ln lc] 25).alloc (.cells #[.int .u8 ea, .int .i64 eb, .int .u64 ec, .int .i64 ed, .bool ee, .int .u64 ef, .int .u64 eg, .int .i64 eh, .int .u8 ei, .int .i64 ej, .int .i64 ek, .int .i64 el] 38)).alloc (.cells #[.slice none 0 0, .slice none 0 0] 25)
    rw [hgn, hY]; exact h
  have len : w.heap.size ≤ gn := by omega
  obtain ⟨ge, hge⟩ : ∃ g, g = w.heap.size + 1 := ⟨_, rfl⟩
  have re : RowAt Y1 ge [.int .u8 ea, .int .i64 eb, .int .u64 ec, .int .i64 ed, .bool ee, .int .u64 ef, .int .u64 eg, .int .i64 eh, .int .u8 ei, .int .i64 ej, .int .i64 ek, .int .i64 el] 38 := by
    have h := (RowAt.new (w.alloc (.cells #[.slice so sn sc, .slice lo ln lc] 25)) [.int .u8 ea, .int .i64 eb, .int .u64 ec, .int .i64 ed, .bool ee, .int .u64 ef, .int .u64 eg, .int .i64 eh, .int .u8 ei, .int .i64 ej, .int .i64 ek, .int .i64 el] 38).alloc (.cells #[.slice none 0 0, .slice none 0 0] 25)
    simp only [World.size_alloc] at h
    rw [hge, hY]; exact h
  have lee : w.heap.size ≤ ge := by omega
  have nene : gn ≠ ge := by omega
  obtain ⟨gz, hgz⟩ : ∃ g, g = w.heap.size + 1 + 1 := ⟨_, rfl⟩
  have rz : RowAt Y1 gz [.slice none 0 0, .slice none 0 0] 25 := by
    have h := RowAt.new ((w.alloc (.cells #[.slice so sn sc, .slice lo ln lc] 25)).alloc (.cells #[.int .u8 ea, .int .i64 eb, .int .u64 ec, .int .i64 ed, .bool ee, .int .u64 ef, .int .u64 eg, .int .i64 eh, .int .u8 ei, .int .i64 ej, .int .i64 ek, .int .i64 el] 38)) [.slice none 0 0, .slice none 0 0] 25
    simp only [World.size_alloc] at h
    rw [hgz, hY]; exact h
  have lez : w.heap.size ≤ gz := by omega
  have nenz : gn ≠ gz := by omega
  have neez : ge ≠ gz := by omega
  replace hS := hS.keep hbY
  replace hL := hL.keep hbY
  replace hB := below2 hB hbY
  go_upto_region 1 with fail
  rw [← hY, ← hgz, ← hge, ← hgn]
  clear hY hbY hle hgn hge hgz
  obtain ⟨n0, n1, nf⟩ := cells2 rn
  go_wp2_with fail
  clear n0 n1 nf
  go_at_call 12; refine (c1 _ hS hL).mono ?_; rintro e w2 ⟨rfl, hb⟩
  replace rn := RowAt.below rn hb
  replace re := RowAt.below re hb
  replace rz := RowAt.below rz hb
  replace hS := hS.keep hb
  replace hL := hL.keep hb
  replace hB := below2 hB hb
  clear hb
  clear c1
  go_upto_region 3 with fail
  go_cut [8, 9] (fun d8 l9 wc => ∃ (g2 : Nat) (p1 p2 : Option Addr) (q1 s1 q2 s2 : Nat), d8 = .pointer (some ⟨g2, 0, none⟩) ∧ l9 = .int .i64 z ∧ Hid (HG w2 wc g2 (.slice p1 q1 s1) (.slice p2 q2 s2) N))
  case first =>
    have hbA : Below w2.heap.size w2 w2 := Below.refl _ _
    have HSK : Hid (∀ V : World, Below w2.heap.size w2 V → V.cell? ⟨gn, 0, none⟩ = some (.slice so sn sc) ∧ V.cell? ⟨gn, 1, none⟩ = some (.slice lo ln lc) ∧ V.cell? ⟨ge, 0, none⟩ = some (.int .u8 ea) ∧ V.cell? ⟨ge, 1, none⟩ = some (.int .i64 eb) ∧ V.cell? ⟨ge, 2, none⟩ = some (.int .u64 ec) ∧ V.cell? ⟨ge, 3, none⟩ = some (.int .i64 ed) ∧ V.cell? ⟨ge, 4, none⟩ = some (.bool ee) ∧ V.cell? ⟨ge, 5, none⟩ = some (.int .u64 ef) ∧ V.cell? ⟨ge, 6, none⟩ = some (.int .u64 eg) ∧ V.cell? ⟨ge, 7, none⟩ = some (.int .i64 eh) ∧ V.cell? ⟨ge, 8, none⟩ = some (.int .u8 ei) ∧ V.cell? ⟨ge, 9, none⟩ = some (.int .i64 ej) ∧ V.cell? ⟨ge, 10, none⟩ = some (.int .i64 ek) ∧ V.cell? ⟨ge, 11, none⟩ = some (.int .i64 el)) := fun V hb => by
      obtain ⟨n0, n1, _⟩ := cells2 (RowAt.below rn hb)
      obtain ⟨⟨e0, e1, e2, e3, e4, e5⟩, ⟨e6, e7, e8, e9, e10, e11⟩, _⟩ := Msg.cells12' (RowAt.below re hb)
      exact ⟨n0, n1, e0, e1, e2, e3, e4, e5, e6, e7, e8, e9, e10, e11⟩
    clear rn re rz hB
    go_region_held3 (fun V => V.cell? ⟨gn, 0, none⟩ = some (.slice so sn sc) ∧ V.cell? ⟨gn, 1, none⟩ = some (.slice lo ln lc) ∧ V.cell? ⟨ge, 0, none⟩ = some (.int .u8 ea) ∧ V.cell? ⟨ge, 1, none⟩ = some (.int .i64 eb) ∧ V.cell? ⟨ge, 2, none⟩ = some (.int .u64 ec) ∧ V.cell? ⟨ge, 3, none⟩ = some (.int .i64 ed) ∧ V.cell? ⟨ge, 4, none⟩ = some (.bool ee) ∧ V.cell? ⟨ge, 5, none⟩ = some (.int .u64 ef) ∧ V.cell? ⟨ge, 6, none⟩ = some (.int .u64 eg) ∧ V.cell? ⟨ge, 7, none⟩ = some (.int .i64 eh) ∧ V.cell? ⟨ge, 8, none⟩ = some (.int .u8 ei) ∧ V.cell? ⟨ge, 9, none⟩ = some (.int .i64 ej) ∧ V.cell? ⟨ge, 10, none⟩ = some (.int .i64 ek) ∧ V.cell? ⟨ge, 11, none⟩ = some (.int .i64 el))
      (first
        | (refine HSK.out _ ?_
           repeat' (first | with_reducible exact hbA | with_reducible apply below_drew | with_reducible apply below_new | with_reducible refine bset ?_ (by have := hbA.size; first | omega | (simp; omega))))
        | go_keep)
      (first
        | (go_at_call 4
           refine (c2 _ (hS.keep (by repeat' (first | with_reducible exact hbA | with_reducible apply below_drew | with_reducible apply below_new))) (hL.keep (by repeat' (first | with_reducible exact hbA | with_reducible apply below_drew | with_reducible apply below_new)))).mono ?_
           rintro e w3 ⟨a1, a2, a3, a4, a5, a6, rfl, hT, hM, hb3⟩
           have hbN : Below w2.heap.size w2 w3 := below2 (by repeat' (first | with_reducible exact hbA | with_reducible apply below_drew | with_reducible apply below_new)) hb3
           (first | (have hE : RowAt w3 w2.heap.size [.slice none 0 0, .slice none 0 0] 25 := (by with_reducible first | exact rk1 hb3 | exact rk2 hb3 | exact rk3 hb3); obtain ⟨v0, v1, vf⟩ := cells2 hE; have hEl := hE.lt) | skip)
           clear hbA
           have hbA := hbN
           clear hbN)
        | (go_at_call 16
           refine (c3 _ _ _ _ _ _ _ (hT.keep (by repeat' (first | with_reducible exact Below.refl _ _ | with_reducible apply below_drew | with_reducible apply below_new))) (hM.keep (by repeat' (first | with_reducible exact Below.refl _ _ | with_reducible apply below_drew | with_reducible apply below_new)))).mono ?_
           rintro e w5 ⟨c1, c2, c3, c4, c5, c6, rfl, hT5, hM5, hb5⟩
           have hbN : Below w2.heap.size w2 w5 := below2 (by repeat' (first | with_reducible exact hbA | with_reducible apply below_drew | with_reducible apply below_new)) hb5
           (first
             | (have hE5 : RowAt w5 w2.heap.size [.slice none 0 0, .slice none 0 0] 25 := hE.below (below2 (by repeat' (first | with_reducible exact Below.refl _ _ | with_reducible apply below_drew | with_reducible apply below_new)) hb5); have h35 : w2.heap.size ≤ w2.heap.size := Nat.le_refl _; obtain ⟨v0, v1, vf⟩ := cells2 hE5; have hEl := hE5.lt)
             | (have hE5 : RowAt w5 w3.heap.size [.slice none 0 0, .slice none 0 0] 25 := (by with_reducible first | exact rk1 hb5 | exact rk2 hb5 | exact rk3 hb5); have h35 : w2.heap.size ≤ w3.heap.size := hbA.size; obtain ⟨v0, v1, vf⟩ := cells2 hE5; have hEl := hE5.lt)
             | skip)
           clear hbA
           have hbA := hbN
           clear hbN))
    all_goals go_wp2_with fail
    all_goals go_meet
    all_goals first
      | (refine ⟨_, c1, c4, c2, c3, c5, c6, rfl, rfl, ?_⟩; show HG _ _ _ _ _ _; with_reducible exact hg_new hbA hT5 hM5)
      | (refine ⟨_, c1, c4, c2, c3, c5, c6, rfl, rfl, ?_⟩; show HG _ _ _ _ _ _; with_reducible exact hg_at hbA hE5 h35 hT5 hM5)
  case rest =>
    obtain ⟨g2, p1, p2, q1, s1, q2, s2, rfl, rfl, HGG⟩ := hcut
    replace rz := RowAt.below rz HGG.out.bl
    replace hB := below2 hB HGG.out.bl
    have hT2 := HGG.out.sts
    have hM2 := HGG.out.ros
    have rg := HGG.out.row
    clear HGG rn re hS hL c2 c3
    obtain ⟨zz0, zz1, zzf⟩ := cells2 rz
    obtain ⟨f0, f1, ff⟩ := cells2 rg
    go_wp2_with fail
    (try simp only [Exit.inBlock, Exit.then])
    refine bodyPost_ret (v := .tuple #[.agg #[.slice p1 q1 s1, .slice p2 q2 s2], .int .i64 z]) ?_ rfl ⟨_, _, _, _, _, _, rfl, sts_off hT2 rz (gset (gset (grefl _ _))), ros_off hM2 rz (gset (gset (grefl _ _))), bset (bset hB lez) lez⟩
    · rw [results_cell_tmp rfl]
      go_simp
theorem rapplyN_any (n : NetT) (e : Ev) (h : Int) (u v : Value) (w : World) (hS : HasSts w u n.seats) (hL : HasRos w v n.ros) (hf : FitN n) (he : FitE e) :
    Calls Tryz.prog 6 #[.agg #[u, v], evV e, .int .i64 h] w (NetIs (applyN n e h).1 (applyN n e h).2 w) := by
  obtain ⟨so, sc, rfl, _⟩ := Ord.HasRow.slice hS
  obtain ⟨lo, lc, rfl, _⟩ := HasRos.slice hL
  have c1 := fun W h1 h2 => rcheck_any n (.slice so n.seats.length sc) (.slice lo n.ros.length lc) W h1 h2 hf.ros
  cases hok : okN n with
  | false =>
    have e1 : checkN n = 2 := by unfold checkN; rw [hok]; rfl
    have e2 : applyN n e h = (zeroN, 2) := by unfold applyN; rw [hok]; rfl
    rw [e1] at c1
    rw [e2]
    exact rapply_bad so lo _ sc _ lc _ _ _ _ _ _ _ _ _ _ _ _ h 2 n.seats n.ros w hS hL (by decide) c1
  | true =>
    have e1 : checkN n = 0 := by unfold checkN; rw [hok]; rfl
    rw [e1] at c1
    have hl := ros_len hok
    have hl2 : n.seats.length ≤ 64 := by have := (okN_parts hok).2.1; omega
    have c2 := fun W h1 h2 => rcopy_any n.seats n.ros (.slice so n.seats.length sc) (.slice lo n.ros.length lc) W h1 h2 (by omega) (by omega) (fun R hR => by have := okRo_many (ros_ok hok R hR); omega)
    have c3 := fun W so lo sn sc ln lc h1 h2 => happens_any n e h (.slice so sn sc) (.slice lo ln lc) W h1 h2 hf he hok
    by_cases hz : (takeN n e h).2 = 2 ∨ (takeN n e h).2 = 1
    · have e2 : applyN n e h = (zeroN, (takeN n e h).2) := by unfold applyN; rw [hok, if_pos rfl, if_pos hz]
      rw [e2]
      exact rapply_form so lo _ sc _ lc _ _ _ _ _ _ _ _ _ _ _ _ h _ (takeN n e h).1 n.seats n.ros w hS hL hz c1 c2 c3
    · have e2 : applyN n e h = takeN n e h := by unfold applyN; rw [hok, if_pos rfl, if_neg hz]
      rw [e2]
      exact rapply_ok so lo _ sc _ lc _ _ _ _ _ _ _ _ _ _ _ _ h _ (takeN n e h).1 n.seats n.ros w hS hL (fun h => hz (.inl h)) (fun h => hz (.inr h)) c1 c2 c3
/-- between two events -/
structure WkN (w W : World) (gn gz : Nat) (n : NetT) : Prop where
  ok : okN n = true
  fit : FitN n
  row : ∃ so lo sn sc ln lc, RowAt W gn [.slice so sn sc, .slice lo ln lc] 25 ∧ HasSts W (.slice so sn sc) n.seats ∧ HasRos W (.slice lo ln lc) n.ros
  rz : RowAt W gz [.slice none 0 0, .slice none 0 0] 25
  bl : Below w.heap.size w W
set_option maxHeartbeats 16000000 in
set_option maxRecDepth 20000 in
theorem rall_bad (so lo : Option Addr) (sn sc ln lc : Nat) (ve : Value) (h z0 : Int) (S : List St) (L : List Ro) (w : World) (hS : HasSts w (.slice so sn sc) S) (hL : HasRos w (.slice lo ln lc) L) (hz0 : ¬ z0 = 0) (c1 : ∀ W, HasSts W (.slice so sn sc) S → HasRos W (.slice lo ln lc) L → Calls Tryz.prog 12 #[.agg #[.slice so sn sc, .slice lo ln lc]] W fun e w' => e = .returned (.int .i64 z0) ∧ Below W.heap.size W w') :
    Calls Tryz.prog 9 #[.agg #[.slice so sn sc, .slice lo ln lc], ve, .int .i64 h] w (AllIs zeroN 0 2 w) := by
  have hB := Below.refl w.heap.size w
  have hzb : (z0 != 0) = true := bne_iff_ne.2 hz0
  go_enter Tryz.func9, Tryz.ntmps9
  obtain ⟨Y1, hY⟩ : ∃ Y, Y = ((w.alloc (.cells #[.slice so sn sc, .slice lo ln lc] 25)).alloc (.cells #[.slice none 0 0, .slice none 0 0] 25)) := ⟨_, rfl⟩
  have hbY : Below w.heap.size w Y1 := by rw [hY]; exact below_new (below_new (Below.refl _ _) _) _
  have hle : w.heap.size ≤ w.heap.size := hB.size
  obtain ⟨gn, hgn⟩ : ∃ g, g = w.heap.size := ⟨_, rfl⟩
  have rn : RowAt Y1 gn [.slice so sn sc, .slice lo ln lc] 25 := by
    have h := (RowAt.new w [.slice so sn sc, .slice lo ln lc] 25).alloc (.cells #[.slice none 0 0, .slice none 0 0] 25)
    rw [hgn, hY]; exact h
  have len : w.heap.size ≤ gn := by omega
  obtain ⟨gz, hgz⟩ : ∃ g, g = w.heap.size + 1 := ⟨_, rfl⟩
  have rz : RowAt Y1 gz [.slice none 0 0, .slice none 0 0] 25 := by
    have h := RowAt.new (w.alloc (.cells #[.slice so sn sc, .slice lo ln lc] 25)) [.slice none 0 0, .slice none 0 0] 25
    simp only [World.size_alloc] at h
    rw [hgz, hY]; exact h
  have lez : w.heap.size ≤ gz := by omega
  have nenz : gn ≠ gz := by omega
  replace hS := hS.keep hbY
  replace hL := hL.keep hbY
  replace hB := below2 hB hbY
  go_upto_region 1 with fail
  rw [← hY, ← hgz, ← hgn]
  clear hY hbY hle hgn hgz
  obtain ⟨n0, n1, nf⟩ := cells2 rn
  go_wp2_with fail
  clear n0 n1 nf
  go_at_call 12; refine (c1 _ hS hL).mono ?_; rintro e w2 ⟨rfl, hb⟩
  replace rn := RowAt.below rn hb
  replace rz := RowAt.below rz hb
  replace hS := hS.keep hb
  replace hL := hL.keep hb
  replace hB := below2 hB hb
  clear hb
  obtain ⟨zz0, zz1, zzf⟩ := cells2 rz
  go_wp2_with fail
  (try simp only [Exit.inBlock, Exit.then])
  refine bodyPost_ret (v := .tuple #[.agg #[.slice none 0 0, .slice none 0 0], .int .i64 0, .int .i64 2]) ?_ rfl ⟨_, _, _, _, _, _, rfl, Ord.hasRow_nil _ 4, hasRos_nil _, bset (bset hB lez) lez⟩
  · rw [results_ctt rfl]
    go_simp
set_option maxHeartbeats 32000000 in
set_option maxRecDepth 20000 in
theorem rall_walk (so lo : Option Addr) (sn sc ln lc : Nat) (eo : Option Addr) (en ecap : Nat) (es : List Ev) (h : Int) (S : List St) (L : List Ro) (w : World) (hS : HasSts w (.slice so sn sc) S) (hL : HasRos w (.slice lo ln lc) L) (hE : HasEvs w (.slice eo en ecap) es) (HEN : Hid (en = es.length)) (heni : (en : Int) ≤ 9223372036854775807) (HFE : Hid (∀ e ∈ es, FitE e)) (HOK : Hid (okN ⟨S, L⟩ = true)) (HFN : Hid (FitN ⟨S, L⟩)) (c1 : ∀ W, HasSts W (.slice so sn sc) S → HasRos W (.slice lo ln lc) L → Calls Tryz.prog 12 #[.agg #[.slice so sn sc, .slice lo ln lc]] W fun e w' => e = .returned (.int .i64 0) ∧ Below W.heap.size W w') (c2 : ∀ W, HasSts W (.slice so sn sc) S → HasRos W (.slice lo ln lc) L → Calls Tryz.prog 4 #[.agg #[.slice so sn sc, .slice lo ln lc]] W fun e w' => ∃ o1 n1 m1 o2 n2 m2, e = .returned (.agg #[.slice o1 n1 m1, .slice o2 n2 m2]) ∧ HasSts w' (.slice o1 n1 m1) S ∧ HasRos w' (.slice o2 n2 m2) L ∧ Below W.heap.size W w') :
    Calls Tryz.prog 9 #[.agg #[.slice so sn sc, .slice lo ln lc], .slice eo en ecap, .int .i64 h] w (AllIs (allF h ⟨S, L⟩ es 0).1 (allF h ⟨S, L⟩ es 0).2.1 (allF h ⟨S, L⟩ es 0).2.2 w) := by
  have hB := Below.refl w.heap.size w
  have HEV : Hid (∀ W : World, Below w.heap.size w W → HasEvs W (.slice eo en ecap) es) := fun W hb => hE.keep hb
  clear hE
  obtain ⟨R, hR⟩ : ∃ R, R = allF h ⟨S, L⟩ es 0 := ⟨_, rfl⟩
  have HR0 : Hid (R = allF h ⟨S, L⟩ es 0) := hR
  rw [← hR]
  clear hR
  go_enter Tryz.func9, Tryz.ntmps9
  obtain ⟨Y1, hY⟩ : ∃ Y, Y = ((w.alloc (.cells #[.slice so sn sc, .slice lo ln lc] 25)).alloc (.cells #[.slice none 0 0, .slice none 0 0] 25)) := ⟨_, rfl⟩
  have hbY : Below w.heap.size w Y1 := by rw [hY]; exact below_new (below_new (Below.refl _ _) _) _
  have hle : w.heap.size ≤ w.heap.size := hB.size
  obtain ⟨gn, hgn⟩ : ∃ g, g = w.heap.size := ⟨_, rfl⟩
  have rn : RowAt Y1 gn [.slice so sn sc, .slice lo ln lc] 25 := by
    have h := (RowAt.new w [.slice so sn sc, .slice lo ln lc] 25).alloc (.cells #[.slice none 0 0, .slice none 0 0] 25)
    rw [hgn, hY]; exact h
  have len : w.heap.size ≤ gn := by omega
  obtain ⟨gz, hgz⟩ : ∃ g, g = w.heap.size + 1 := ⟨_, rfl⟩
  have rz : RowAt Y1 gz [.slice none 0 0, .slice none 0 0] 25 := by
    have h := RowAt.new (w.alloc (.cells #[.slice so sn sc, .slice lo ln lc] 25)) [.slice none 0 0, .slice none 0 0] 25
    simp only [World.size_alloc] at h
    rw [hgz, hY]; exact h
  have lez : w.heap.size ≤ gz := by omega
  have nenz : gn ≠ gz := by omega
  replace hS := hS.keep hbY
  replace hL := hL.keep hbY
  replace hB := below2 hB hbY
  go_upto_region 1 with fail
  rw [← hY, ← hgz, ← hgn]
  clear hY hbY hle hgn hgz
  obtain ⟨n0, n1, nf⟩ := cells2 rn
  go_wp2_with fail
  clear n0 n1 nf
  go_at_call 12; refine (c1 _ hS hL).mono ?_; rintro e w2 ⟨rfl, hb⟩
  replace rn := RowAt.below rn hb
  replace rz := RowAt.below rz hb
  replace hS := hS.keep hb
  replace hL := hL.keep hb
  replace hB := below2 hB hb
  clear hb
  obtain ⟨n0, n1, nf⟩ := cells2 rn
  go_wp2_with fail
  clear n0 n1 nf
  go_at_call 4; refine (c2 _ hS hL).mono ?_; rintro e w3 ⟨o1, n1, m1, o2, n2, m2, rfl, hT, hM, hb⟩
  replace rn := RowAt.below rn hb
  replace rz := RowAt.below rz hb
  replace hS := hS.keep hb
  replace hL := hL.keep hb
  replace hB := below2 hB hb
  clear hb
  clear hS hL
  obtain ⟨Y9, hY⟩ : ∃ Y, Y = (w3.setCell ⟨gn, 0, none⟩ (.slice o1 n1 m1)).setCell ⟨gn, 1, none⟩ (.slice o2 n2 m2) := ⟨_, rfl⟩
  have HW0 : Hid (WkN w Y9 gn gz ⟨S, L⟩) := ⟨HOK.out, HFN.out, ⟨_, _, _, _, _, _, by rw [hY]; exact (rn.set1 0 _).set1 1 _, by rw [hY]; exact sts_off hT rn (gset (gset (grefl _ _))), by rw [hY]; exact ros_off hM rn (gset (gset (grefl _ _)))⟩, by rw [hY]; exact (rz.far1 (by omega) _ _).far1 (by omega) _ _, by rw [hY]; exact bset (bset hB len) len⟩
  obtain ⟨n0, n1, nf⟩ := cells2 rn
  go_upto_region 4 with fail
  rw [← hY]
  clear hY n0 n1 nf rn rz hT hM hB HOK HFN c1 c2
  go_wp2_with fail
  go_loopw [21] (fun i wr => ∃ k : Nat, k ≤ en ∧ i = .int .i64 k ∧ Hid (∃ n, WkN w wr gn gz n ∧ R = allF h n (es.drop k) k)) (fun i _ => en - (Go.RowKit.intOf i).toNat)
  case atStart => exact ⟨0, by omega, rfl, ⟨_, HW0.out, by rw [List.drop_zero]; exact HR0.out⟩⟩
  case round =>
    obtain ⟨k, hk, rfl, HI⟩ := hrel
    clear HW0 HR0
    obtain ⟨n, hw, hRk⟩ := HI.out
    clear HI
    by_cases hlt : k < en
    · have hkz : k < es.length := by rw [← HEN.out]; exact hlt
      obtain ⟨b1, i1, rfl, hb1, x0, x1, x2, x3, x4, x5, x6, x7, x8, x9, x10, x11⟩ := HasEvs.cell (HEV.out _ hw.bl) k hkz
      have fe := HFE.out es[k] (List.getElem_mem hkz)
      have HRC : Hid (R = if (takeN n es[k] h).2 = 0 then allF h (takeN n es[k] h).1 (es.drop (k + 1)) (k + 1) else (n, k, (takeN n es[k] h).2)) := by
        show R = _
        rw [hRk, List.drop_eq_getElem_cons hkz]
        rfl
      obtain ⟨ev, hev⟩ : ∃ ev, ev = es[k] := ⟨_, rfl⟩
      rw [← hev] at x0 x1 x2 x3 x4 x5 x6 x7 x8 x9 x10 x11 fe HRC
      clear hev hRk
      have hki : (k : Int) < (en : Int) := by omega
      obtain ⟨V, hV⟩ : ∃ V, V = wr.alloc (.cells #[.int .u8 (ev.kind : Int), .int .i64 ev.router, .int .u64 (ev.seq : Int), .int .i64 ev.time, .bool ev.pf.six, .int .u64 (hiN ev.pf.n : Int), .int .u64 (loN ev.pf.n : Int), .int .i64 ev.pf.len, .int .u8 (ev.act.k : Int), .int .i64 ev.act.i, .int .i64 ev.iface, .int .i64 ev.peer] 38) := ⟨_, rfl⟩
      have hbV : Below wr.heap.size wr V := by rw [hV]; exact below_new (Below.refl _ _) _
      have rV : RowAt V wr.heap.size [.int .u8 (ev.kind : Int), .int .i64 ev.router, .int .u64 (ev.seq : Int), .int .i64 ev.time, .bool ev.pf.six, .int .u64 (hiN ev.pf.n : Int), .int .u64 (loN ev.pf.n : Int), .int .i64 ev.pf.len, .int .u8 (ev.act.k : Int), .int .i64 ev.act.i, .int .i64 ev.iface, .int .i64 ev.peer] 38 := by rw [hV]; exact RowAt.new _ _ _
      go_upto_region 7 with fail
      rw [← hV]
      obtain ⟨a1, a4, a2, a3, a5, a6, r1, r2, r3⟩ := hw.row
      have ok0 := hw.ok
      have ft0 := hw.fit
      replace r1 := RowAt.below r1 hbV
      replace r2 := r2.keep hbV
      replace r3 := r3.keep hbV
      have rz := RowAt.below hw.rz hbV
      have hB := below2 hw.bl hbV
      have ct := happens_any n ev h _ _ V r2 r3 ft0 fe ok0
      have HT0 : Hid ((takeN n ev h).2 = 0 → okN (takeN n ev h).1 = true ∧ FitN (takeN n ev h).1) := fun h0 => ⟨take_right ok0 h0, fit_take ft0 ok0 fe⟩
      have HOKF : Hid (okN n = true ∧ FitN n) := ⟨ok0, ft0⟩
      clear hV hbV x0 x1 x2 x3 x4 x5 x6 x7 x8 x9 x10 x11 hw hb1 fe ok0 ft0
      generalize wr.heap.size = ge at rV ⊢
      unfold evV evC at ct
      obtain ⟨⟨y0, y1, y2, y3, y4, y5⟩, ⟨y6, y7, y8, y9, y10, y11⟩, yf⟩ := Msg.cells12' rV
      obtain ⟨t0, t1, tf⟩ := cells2 r1
      go_wp2_with fail
      go_at_call 16; refine ct.mono ?_; rintro x w9 ⟨p1, q1, s1, p2, q2, s2, rfl, hT9, hM9, hb9⟩
      clear y0 y1 y2 y3 y4 y5 y6 y7 y8 y9 y10 y11 yf t0 t1 tf ct rV
      obtain ⟨Q, hQ⟩ : ∃ Q, Q = w9.alloc (.cells #[.slice p1 q1 s1, .slice p2 q2 s2] 25) := ⟨_, rfl⟩
      have hbQ : Below w9.heap.size w9 Q := by rw [hQ]; exact below_new (Below.refl _ _) _
      have rQ : RowAt Q w9.heap.size [.slice p1 q1 s1, .slice p2 q2 s2] 25 := by rw [hQ]; exact RowAt.new _ _ _
      have hb10 : Below V.heap.size V Q := below2 hb9 hbQ
      have hng : gn ≠ w9.heap.size := by have := RowAt.lt (RowAt.below r1 hb9); omega
      go_upto_region 8 with fail
      rw [← hQ]
      clear hQ hb9
      generalize w9.heap.size = gq at rQ hng ⊢
      replace hT9 := hT9.keep hbQ
      replace hM9 := hM9.keep hbQ
      replace r1 := RowAt.below r1 hb10
      replace r2 := r2.keep hb10
      replace r3 := r3.keep hb10
      replace rz := RowAt.below rz hb10
      replace hB := below2 hB hb10
      clear hbQ hb10
      obtain ⟨u0, u1, uf⟩ := cells2 rQ
      obtain ⟨t0, t1, tf⟩ := cells2 r1
      by_cases h0 : (takeN n ev h).2 = 0
      · have HN : R = allF h (takeN n ev h).1 (es.drop (k + 1)) (k + 1) := by rw [HRC.out, if_pos h0]
        obtain ⟨ok1, ft1⟩ := HT0.out h0
        rw [h0]
        clear HRC HT0 HOKF
        obtain ⟨Y, hY⟩ : ∃ Y, Y = (Q.setCell ⟨gn, 0, none⟩ (.slice p1 q1 s1)).setCell ⟨gn, 1, none⟩ (.slice p2 q2 s2) := ⟨_, rfl⟩
        have HNN : Hid (∃ n', WkN w Y gn gz n' ∧ R = allF h n' (es.drop (k + 1)) (k + 1)) := ⟨_, ⟨ok1, ft1, ⟨_, _, _, _, _, _, by rw [hY]; exact (r1.set1 0 _).set1 1 _, by rw [hY]; exact sts_off hT9 r1 (gset (gset (grefl _ _))), by rw [hY]; exact ros_off hM9 r1 (gset (gset (grefl _ _)))⟩, by rw [hY]; exact (rz.far1 (by omega) _ _).far1 (by omega) _ _, by rw [hY]; exact bset (bset hB len) len⟩, HN⟩
        clear HN ok1 ft1
        go_upto_region 11 with fail
        rw [← hY]
        clear hY u0 u1 uf t0 t1 tf r1 r2 r3 rz hB rQ hT9 hM9
        go_wp2_with fail
        go_roundw
        case rel => exact ⟨k + 1, by omega, by go_num, HNN⟩
        case measure => simp [Go.RowKit.intOf]; omega
      · have HV : Hid (R = (n, k, (takeN n ev h).2)) := by show R = _; rw [HRC.out, if_neg h0]
        clear HRC HT0
        generalize (takeN n ev h).2 = z at *
        have hzb : (z != 0) = true := bne_iff_ne.2 h0
        obtain ⟨zz0, zz1, zzf⟩ := cells2 rz
        go_wp2_with fail
        (try simp only [Exit.inBlock, Exit.then])
        refine bodyPost_ret (v := .tuple #[.agg #[.slice a1 a2 a3, .slice a4 a5 a6], .int .i64 (k : Int), .int .i64 z]) ?_ rfl ⟨_, _, _, _, _, _, by rw [HV.out], by rw [HV.out]; exact sts_off r2 rz (gset (gset (grefl _ _))), by rw [HV.out]; exact ros_off r3 rz (gset (gset (grefl _ _))), bset (bset hB lez) lez⟩
        · rw [results_ctt rfl]
          go_simp
    · have hkn2 : k = en := by omega
      subst hkn2
      have hkd : decide ((k : Int) < (k : Int)) = false := decide_eq_false (by omega)
      have HV : Hid (R = (n, k, 0)) := by show R = _; rw [hRk, List.drop_of_length_le (by rw [← HEN.out]; exact Nat.le_refl _)]; rfl
      obtain ⟨a1, a4, a2, a3, a5, a6, r1, r2, r3⟩ := hw.row
      have rz := hw.rz
      have hB := hw.bl
      obtain ⟨zz0, zz1, zzf⟩ := cells2 rz
      obtain ⟨f0, f1, ff⟩ := cells2 r1
      clear hRk
      go_wp2_with fail
      (try simp only [Exit.inBlock, Exit.then])
      refine bodyPost_ret (v := .tuple #[.agg #[.slice a1 a2 a3, .slice a4 a5 a6], .int .i64 (k : Int), .int .i64 0]) ?_ rfl ⟨_, _, _, _, _, _, by rw [HV.out], by rw [HV.out]; exact sts_off r2 rz (gset (gset (grefl _ _))), by rw [HV.out]; exact ros_off r3 rz (gset (gset (grefl _ _))), bset (bset hB lez) lez⟩
      · rw [results_ctt rfl]
        go_simp
theorem rall_any (n : NetT) (es : List Ev) (h : Int) (u v ve : Value) (w : World) (hS : HasSts w u n.seats) (hL : HasRos w v n.ros) (hE : HasEvs w ve es) (hf : FitN n) (he : ∀ e ∈ es, FitE e) :
    Calls Tryz.prog 9 #[.agg #[u, v], ve, .int .i64 h] w (AllIs (allN n es h).1 (allN n es h).2.1 (allN n es h).2.2 w) := by
  obtain ⟨so, sc, rfl, _⟩ := Ord.HasRow.slice hS
  obtain ⟨lo, lc, rfl, _⟩ := HasRos.slice hL
  obtain ⟨eo, ec, rfl, q1, q2⟩ := Ord.HasRow.slice hE
  have c1 := fun W h1 h2 => rcheck_any n (.slice so n.seats.length sc) (.slice lo n.ros.length lc) W h1 h2 hf.ros
  cases hok : okN n with
  | false =>
    have e1 : checkN n = 2 := by unfold checkN; rw [hok]; rfl
    have e2 : allN n es h = (zeroN, 0, 2) := by unfold allN; rw [hok]; rfl
    rw [e1] at c1
    rw [e2]
    exact rall_bad so lo _ sc _ lc _ h 2 n.seats n.ros w hS hL (by decide) c1
  | true =>
    have e1 : checkN n = 0 := by unfold checkN; rw [hok]; rfl
    have e2 : allN n es h = allF h n es 0 := by unfold allN; rw [hok]; rfl
    rw [e1] at c1
    rw [e2]
    have hl := ros_len hok
    have hl2 : n.seats.length ≤ 64 := by have := (okN_parts hok).2.1; omega
    have c2 := fun W h1 h2 => rcopy_any n.seats n.ros (.slice so n.seats.length sc) (.slice lo n.ros.length lc) W h1 h2 (by omega) (by omega) (fun R hR => by have := okRo_many (ros_ok hok R hR); omega)
    exact rall_walk so lo _ sc _ lc eo _ ec es h n.seats n.ros w hS hL hE rfl (by omega) he hok hf c1 c2
end Go.Proofs.YtkjhnefbcnnjlaaGreat.Nt
