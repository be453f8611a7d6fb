/- For all nets, two events and a horizon: spoorlaw18.NetApart returns true, and changes nothing that was there. No condition. -/
import Derived.Test.YtbglbegljkgknaaGreatNq42
import Derived.Test.YtbglbegljkgknaaGreatNq16
import Derived.Test.YtbglbegljkgknaaGreatNq36
import Derived.Test.YtbglbegljkgknaaGreatNq39
import Derived.Test.YtbglbegljkgknaaGreatRows
import Derived.Test.YtbglbegljkgknaaGreatNq41
import Derived.ProofKit
import Derived.OpenShut
import Derived.ShutString
import Derived.SizedLaws
set_option linter.unusedVariables false
namespace Go.Proofs.YtbglbegljkgknaaGreat.Nt
open Go.ChangeShapes Go.WideShapes Go.ChangeAt Go.RowKit
open Go.Proofs.YtbglbegljkgknaaGreat.Lk (HasLks FitL HasRow hasRow_nil row_of flat_get)
open Go.Proofs.YtbglbegljkgknaaGreat.Tr (HasRts FitR)
open Go.Proofs.YtbglbegljkgknaaGreat.Fib
open Go.Proofs.YtbglbegljkgknaaGreat.Ord (St HasSts)
section
variable {H : Type} {enc : TypeId × Value → H} {W : World} {base : Nat} {spare : Nat → Bool} {held : Bool}
set_option maxRecDepth 100000 in
theorem open_routers {v : Value} {fuel : Nat} {x : DataW H × List MemPlace} (h : DataW.trod enc Tryz.prog W base spare held fuel 23 [v] = some x) : ∃ L : List Ro, HasRos W v L ∧ ∀ R ∈ L, FitRo R := by
  rcases Go.Deep.open_slice Tryz.underlying23 h with ⟨hcs, _⟩ | ⟨a, l, c, m, n, D, Pl, hcs, _, hl, hm, hmm, _, hx⟩
  · injection hcs with e; subst e
    exact ⟨[], hasRos_nil _, by simp⟩
  · injection hcs with e; subst e
    have hlm : l ≤ m := by rw [hmm]; split <;> omega
    have hA : ∀ i, ∃ p : RoM, i < l → (∀ j, j < 4 → W.cell? (a.add (i * 4 + j)) = (roC p)[j]?) ∧ RowsOf W p ∧ FitRo p.ro := fun i => by
      by_cases hi : i < l
      · obtain ⟨cs', h1, h2⟩ := hx i (by omega)
        rw [show Tryz.prog.cellsOf 51 = 4 from by kernel_rfl] at h1
        obtain ⟨_, hlen, hcell⟩ := World.cells?_some h1
        obtain ⟨c0, c1, c2, c3, rfl⟩ : ∃ c0 c1 c2 c3, cs' = [c0, c1, c2, c3] := by
          match cs', hlen with
          | [c0, c1, c2, c3], _ => exact ⟨c0, c1, c2, c3, rfl⟩
        obtain ⟨R, e0, e1, r1, r2, fR⟩ := open_ro4 h2
        refine ⟨⟨R, c2, c3⟩, fun _ => ⟨fun j hj => ?_, ⟨r1, r2⟩, fR⟩⟩
        have hh : roC ⟨R, c2, c3⟩ = [c0, c1, c2, c3] := by rw [e0, e1]; rfl
        rw [hh]
        have := hcell j hj
        rw [Go.Deep.add_add] at this
        rw [this]
      · exact ⟨⟨zeroRo, .bool false, .bool false⟩, fun h => absurd h hi⟩
    obtain ⟨F, hF⟩ := Classical.axiomOfChoice hA
    refine ⟨rosOf ((List.range l).map F), ⟨(List.range l).map F, rfl, ?_, fun p hp => ?_⟩, fun R hR => ?_⟩
    · rw [List.length_map, List.length_range]
      refine row_of (by decide) hl hm (by rw [roCs_len]; simp) (fun j hj => ?_)
      have hj2 : j / 4 < l := by omega
      obtain ⟨hc, _⟩ := hF (j / 4) hj2
      show _ = (((List.range l).map F).flatMap roC)[j]?
      rw [flat_get roC 4 (by decide) (fun x => rfl) _ j (by simp; omega)]
      simp only [List.getElem_map, List.getElem_range]
      rw [← hc (j % 4) (by omega)]
      congr 2
      omega
    · obtain ⟨i, hi, rfl⟩ := List.mem_map.1 hp
      exact (hF i (List.mem_range.1 hi)).2.1
    · unfold rosOf at hR
      obtain ⟨p, hp, rfl⟩ := List.mem_map.1 hR
      obtain ⟨i, hi, rfl⟩ := List.mem_map.1 hp
      exact (hF i (List.mem_range.1 hi)).2.2
set_option maxRecDepth 100000 in
theorem open_net2 {s c : Value} {fuel : Nat} {d : DataW H × List MemPlace} (hf : DataW.trod enc Tryz.prog W base spare held fuel 25 [s, c] = some d) : ∃ n : NetT, HasSts W s n.seats ∧ HasRos W c n.ros ∧ FitN n := by
  obtain ⟨xs, n, _, _, hlen, hxl, hfs⟩ := DataW.trod_struct Tryz.underlying25 hf
  have g0 : DataW.trod enc Tryz.prog W base spare held n 22 ((([s, c] : List Value).drop 0).take (Tryz.prog.cellsOf 22)) = xs[0]? := hfs 0 _ rfl
  have g1 : DataW.trod enc Tryz.prog W base spare held n 23 ((([s, c] : List Value).drop 1).take (Tryz.prog.cellsOf 23)) = xs[1]? := hfs 1 _ rfl
  have hx4 : xs.length = 2 := hxl
  rw [List.getElem?_eq_getElem (by omega)] at g0 g1
  rw [show Tryz.prog.cellsOf 22 = 1 from by kernel_rfl] at g0
  rw [show Tryz.prog.cellsOf 23 = 1 from by kernel_rfl] at g1
  obtain ⟨zs, hs, hzl⟩ := Ord.open_seats (v := s) g0
  obtain ⟨qs, hp, hql⟩ := open_routers (v := c) g1
  exact ⟨⟨zs, qs⟩, hs, hp, hzl, hql⟩
set_option maxRecDepth 100000 in
theorem open_net {v : Value} {d : DataW H} {ps : List MemPlace} {r : Reach} {b0 : Nat} (hval : Value.okWide Tryz.prog W r b0 25 v) (h : DataW.Trod enc Tryz.prog W base spare held 25 v d ps) : ∃ (n : NetT) (a b : Value), v = .agg #[a, b] ∧ HasSts W a n.seats ∧ HasRos W b n.ros ∧ FitN n := by
  obtain ⟨cs, rfl, hsz⟩ := okWide_struct Tryz.underlying25 hval
  obtain ⟨fuel, hf⟩ := h
  rw [show Tryz.prog.cellsOf 25 = 2 from by kernel_rfl] at hsz
  obtain ⟨s, c, rfl⟩ : ∃ s c, cs = #[s, c] := by
    obtain ⟨l⟩ := cs
    match l, hsz with
    | [s, c], _ => exact ⟨s, c, rfl⟩
  obtain ⟨n, h1, h2, h3⟩ := open_net2 hf
  exact ⟨n, s, c, rfl, h1, h2, h3⟩
end
end Go.Proofs.YtbglbegljkgknaaGreat.Nt
namespace Go.Proofs.YtbglbegljkgknaaGreat.Nt
open Go.Proofs.YtbglbegljkgknaaGreat.Msg (Ev Ac okE FitE)
open Go.Proofs.YtbglbegljkgknaaGreat.Fib
open Go.Proofs.YtbglbegljkgknaaGreat.Ord (St nextL okL askL misL)
theorem up_oneR {L : List Ro} (h : UpR L) {x y : Ro} (hx : x ∈ L) (hy : y ∈ L) (e : x.id = y.id) : x = y := by
  obtain ⟨j, hj, rfl⟩ := List.getElem_of_mem hx
  obtain ⟨k, hk, rfl⟩ := List.getElem_of_mem hy
  rcases Nat.lt_trichotomy j k with g | g | g
  · have := List.pairwise_iff_getElem.1 h j k hj hk g
    omega
  · subst g; rfl
  · have := List.pairwise_iff_getElem.1 h k j hk hj g
    omega
theorem find_mem {n : NetT} (h : okN n = true) {R : Ro} (hR : R ∈ n.ros) : findN n R.id = (R, 0) := by
  obtain ⟨_, _, p3, p4⟩ := pos_parts n.ros R.id (ros_up h)
  unfold findN
  rw [h]
  cases hi : isN n.ros R.id with
  | false => exact absurd rfl (p4 hi R hR)
  | true =>
    have := up_oneR (ros_up h) (p3 hi).1 hR (p3 hi).2
    rw [this]
    rfl
theorem apply_zero {n : NetT} {e : Ev} {h : Int} (hz : (applyN n e h).2 = 0) : okN n = true ∧ (takeN n e h).2 = 0 ∧ applyN n e h = takeN n e h := by
  unfold applyN at hz ⊢
  cases hok : okN n with
  | false => rw [hok] at hz; simp at hz
  | true =>
    rw [hok] at hz
    simp only [if_true] at hz ⊢
    by_cases hc : (takeN n e h).2 = 2 ∨ (takeN n e h).2 = 1
    · rw [if_pos hc] at hz
      simp only at hz
      omega
    · rw [if_neg hc] at hz ⊢
      exact ⟨trivial, hz, rfl⟩
theorem apply_form_z {n : NetT} {e : Ev} {h : Int} (hz : (applyN n e h).2 = 2 ∨ (applyN n e h).2 = 1) : (applyN n e h).1 = zeroN := by
  unfold applyN at hz ⊢
  cases hok : okN n with
  | false => rfl
  | true =>
    rw [hok] at hz
    simp only [if_true] at hz ⊢
    by_cases hc : (takeN n e h).2 = 2 ∨ (takeN n e h).2 = 1
    · rw [if_pos hc]
    · rw [if_neg hc] at hz; exact absurd hz hc
theorem apply_other {n : NetT} {e : Ev} {h : Int} (h0 : ¬ (applyN n e h).2 = 0) (h2 : ¬ (applyN n e h).2 = 2) (h1 : ¬ (applyN n e h).2 = 1) : (applyN n e h).1 = n := by
  unfold applyN at h0 h1 h2 ⊢
  cases hok : okN n with
  | false => rw [hok] at h2; exact absurd rfl h2
  | true =>
    rw [hok] at h0 h1 h2
    simp only [if_true] at h0 h1 h2 ⊢
    by_cases hc : (takeN n e h).2 = 2 ∨ (takeN n e h).2 = 1
    · rw [if_pos hc] at h2 h1
      exact absurd hc (fun hc => hc.elim h2 h1)
    · rw [if_neg hc] at h0 ⊢
      exact take_same h0
theorem take_q {n : NetT} {e : Ev} {h : Int} (hok : okN n = true) (hz : (takeN n e h).2 = 0) : okRo (applyRo (wasN n.ros e.router) e).1 = true ∧ (applyRo (wasN n.ros e.router) e).1.id = e.router ∧ (applyRo (wasN n.ros e.router) e).1.up = !decide (e.kind = 2) := by
  obtain ⟨t1, t2, t3, t4⟩ := take_zero hz
  have hw := was_ok hok (ev_id (next_okE t1).2.1)
  rcases apply_cases (wasN n.ros e.router) e with g | g | g
  · exact ⟨g.2.2.2.2.2.1, by rw [g.2.2.2.2.2.2.1]; exact hw.2, g.2.2.2.2.2.2.2.1⟩
  · rw [g.1] at t2; exact absurd t2 (by decide)
  · exact absurd t2 g.1
theorem right_net {n : NetT} {e : Ev} {h : Int} (hz : (applyN n e h).2 = 0) : okN n = true ∧ okN (applyN n e h).1 = true ∧ (∀ R ∈ n.ros, (findN (applyN n e h).1 R.id).2 = 0 ∧ (R.id ≠ e.router → (findN (applyN n e h).1 R.id).1 = R)) ∧ (findN (applyN n e h).1 e.router).2 = 0 ∧ (findN (applyN n e h).1 e.router).1.up = !decide (e.kind = 2) := by
  obtain ⟨hok, ht, ea⟩ := apply_zero hz
  rw [ea]
  have hr := take_right hok ht
  obtain ⟨t1, t2, t3, t4⟩ := take_zero ht
  obtain ⟨q1, q2, q3⟩ := take_q hok ht
  have hros : (takeN n e h).1.ros = n.ros.filter (fun R => decide (R.id < e.router)) ++ ([(applyRo (wasN n.ros e.router) e).1] ++ n.ros.filter (fun R => decide (e.router < R.id))) := by rw [t4]; exact put_parts hok _ _
  have hQ : (applyRo (wasN n.ros e.router) e).1 ∈ (takeN n e h).1.ros := by rw [hros]; simp
  have hfQ := find_mem hr hQ
  rw [q2] at hfQ
  refine ⟨hok, hr, fun R hR => ?_, by rw [hfQ], by rw [hfQ]; exact q3⟩
  by_cases hid : R.id = e.router
  · rw [hid, hfQ]
    exact ⟨rfl, fun h => absurd rfl h⟩
  · have hm : R ∈ (takeN n e h).1.ros := by
      rw [hros]
      simp only [List.mem_append, List.mem_singleton, List.mem_filter, decide_eq_true_eq]
      rcases Int.lt_or_gt_of_ne hid with g | g
      · exact .inl ⟨hR, g⟩
      · exact .inr (.inr ⟨hR, g⟩)
    rw [find_mem hr hm]
    exact ⟨rfl, fun _ => rfl⟩
end Go.Proofs.YtbglbegljkgknaaGreat.Nt
namespace Go.Proofs.YtbglbegljkgknaaGreat.Nt
open Go.Proofs.YtbglbegljkgknaaGreat.Msg (Ev Ac okE FitE)
open Go.Proofs.YtbglbegljkgknaaGreat.Fib
open Go.Proofs.YtbglbegljkgknaaGreat.Ord (St nextL okL askL misL seatedL findL isIn seatOf)
theorem ext_key {α : Type} (k : α → Int) : ∀ (a b : List α), a.Pairwise (fun x y => k x < k y) → b.Pairwise (fun x y => k x < k y) → (∀ z, z ∈ a ↔ z ∈ b) → a = b := by
  intro a
  induction a with
  | nil =>
    intro b _ _ h
    cases b with
    | nil => rfl
    | cons y b => exact absurd ((h y).2 List.mem_cons_self) (by simp)
  | cons x a ih =>
    intro b ha hb h
    cases b with
    | nil => exact absurd ((h x).1 List.mem_cons_self) (by simp)
    | cons y b =>
      have h1 := List.pairwise_cons.1 ha
      have h2 := List.pairwise_cons.1 hb
      have hxy : x = y := by
        rcases List.mem_cons.1 ((h x).1 List.mem_cons_self) with e | e
        · exact e
        · rcases List.mem_cons.1 ((h y).2 List.mem_cons_self) with e2 | e2
          · exact e2.symm
          · have := h2.1 x e
            have := h1.1 y e2
            omega
      subst hxy
      congr 1
      refine ih b h1.2 h2.2 (fun z => ?_)
      constructor
      · intro hz
        rcases List.mem_cons.1 ((h z).1 (List.mem_cons_of_mem _ hz)) with e | e
        · subst e; have := h1.1 z hz; omega
        · exact e
      · intro hz
        rcases List.mem_cons.1 ((h z).2 (List.mem_cons_of_mem _ hz)) with e | e
        · subst e; have := h2.1 z hz; omega
        · exact e
theorem mem_put {n : NetT} (h : okN n = true) {r : Int} {Q R : Ro} : R ∈ putN n.ros r Q ↔ R = Q ∨ (R ∈ n.ros ∧ R.id ≠ r) := by
  rw [put_parts h]
  simp only [List.mem_append, List.mem_singleton, List.mem_filter, decide_eq_true_eq]
  constructor
  · rintro (⟨h1, h2⟩ | h | ⟨h1, h2⟩)
    · exact .inr ⟨h1, by omega⟩
    · exact .inl h
    · exact .inr ⟨h1, by omega⟩
  · rintro (h | ⟨h1, h2⟩)
    · exact .inr (.inl h)
    · rcases Int.lt_or_gt_of_ne h2 with g | g
      · exact .inl ⟨h1, g⟩
      · exact .inr (.inr ⟨h1, g⟩)
theorem mem_seatedL {l : List St} {s t : St} : t ∈ seatedL l s ↔ t = s ∨ (t ∈ l ∧ t.router ≠ s.router) := by
  unfold seatedL Ord.ahead Ord.behind
  simp only [List.mem_append, List.mem_singleton, List.mem_filter, decide_eq_true_eq]
  constructor
  · rintro (⟨h1, h2⟩ | h | ⟨h1, h2⟩)
    · exact .inr ⟨h1, by omega⟩
    · exact .inl h
    · exact .inr ⟨h1, by omega⟩
  · rintro (h | ⟨h1, h2⟩)
    · exact .inr (.inl h)
    · rcases Int.lt_or_gt_of_ne h2 with g | g
      · exact .inl ⟨h1, g⟩
      · exact .inr (.inr ⟨h1, g⟩)
theorem was_eq {L M : List Ro} (hL : UpR L) (hM : UpR M) {r : Int} (h : ∀ R : Ro, R.id = r → (R ∈ L ↔ R ∈ M)) : wasN L r = wasN M r := by
  obtain ⟨_, _, p3, p4⟩ := pos_parts L r hL
  obtain ⟨_, _, q3, q4⟩ := pos_parts M r hM
  cases hi : isN L r with
  | true =>
    obtain ⟨a1, a2⟩ := p3 hi
    have hm := (h _ a2).1 a1
    cases hj : isN M r with
    | true =>
      obtain ⟨b1, b2⟩ := q3 hj
      exact up_oneR hM hm b1 (by rw [a2, b2])
    | false => exact absurd a2 (q4 hj _ hm)
  | false =>
    cases hj : isN M r with
    | true =>
      obtain ⟨b1, b2⟩ := q3 hj
      exact absurd b2 (p4 hi _ ((h _ b2).2 b1))
    | false => unfold wasN; rw [hi, hj]; rfl
/-- a seat that another one's event does not touch -/
theorem seat_apart {l : List St} (hu : okL l = true) {s : St} {r : Int} (hne : r ≠ s.router) : isIn (seatedL l s) r = isIn l r ∧ seatOf (seatedL l s) r = seatOf l r := by
  have := Ord.find_seated ((Ord.okL_iff _).1 hu).2.2 s r
  rw [if_neg hne] at this
  unfold isIn seatOf
  rw [this]
  exact ⟨rfl, rfl⟩
theorem mis_apart {l m : List St} {e : Ev} {h : Int} (h1 : isIn m e.router = isIn l e.router) (h2 : seatOf m e.router = seatOf l e.router) (hz : misL m e h = 0) : misL l e h = 0 ∨ misL l e h = 8 := by
  unfold misL at hz ⊢
  rw [h1, h2] at hz
  by_cases c1 : isIn l e.router = false ∧ e.kind ≠ 1
  · rw [if_pos c1] at hz; exact absurd hz (by decide)
  · rw [if_neg c1] at hz ⊢
    by_cases c2 : e.seq ≠ (seatOf l e.router).seq + 1
    · rw [if_pos c2] at hz; exact absurd hz (by decide)
    · rw [if_neg c2] at hz ⊢
      by_cases c3 : e.time < (seatOf l e.router).time ∨ e.time ≤ h
      · rw [if_pos c3] at hz; exact absurd hz (by decide)
      · rw [if_neg c3] at hz ⊢
        by_cases c4 : decide (e.kind = 1) = (seatOf l e.router).up
        · rw [if_pos c4] at hz; exact absurd hz (by decide)
        · rw [if_neg c4] at hz ⊢
          by_cases c5 : isIn l e.router = false ∧ l.length = 64
          · rw [if_pos c5]; exact .inr rfl
          · rw [if_neg c5]; exact .inl rfl
theorem next_apart {l m : List St} {e : Ev} {h : Int} (hl : okL l = true) (h1 : isIn m e.router = isIn l e.router) (h2 : seatOf m e.router = seatOf l e.router) (hz : (nextL m e h).2 = 0) : (nextL l e h).2 = 0 ∨ (nextL l e h).2 = 8 := by
  obtain ⟨a1, a2⟩ := Ord.next_zero hz
  obtain ⟨o1, o2, o3, o4⟩ := Ord.ask_ok a1
  have hask : askL l e h = 0 := by
    unfold askL
    rw [hl, o2]
    simp only [Bool.and_self, if_true]
    rw [if_neg (by omega)]
  have hm := mis_apart h1 h2 a2
  unfold nextL
  rw [if_pos hask]
  rcases hm with g | g
  · rw [if_pos g]; exact .inl rfl
  · rw [if_neg (by rw [g]; decide)]; exact .inr g
/-- what becomes of a net by an event that another net, alike at its router, takes -/
theorem take_like {n m : NetT} {e : Ev} {h : Int} (hn : okN n = true) (hm : okN m = true) (h1 : isIn m.seats e.router = isIn n.seats e.router) (h2 : seatOf m.seats e.router = seatOf n.seats e.router) (h3 : ∀ R : Ro, R.id = e.router → (R ∈ n.ros ↔ R ∈ m.ros)) (hz : (takeN m e h).2 = 0) (h8 : ¬ (takeN n e h).2 = 8) : (takeN n e h).2 = 0 ∧ (applyRo (wasN n.ros e.router) e).1 = (applyRo (wasN m.ros e.router) e).1 := by
  obtain ⟨t1, t2, t3, t4⟩ := take_zero hz
  have hw := was_eq (ros_up hn) (ros_up hm) h3
  have hnx := next_apart (okN_parts hn).1 h1 h2 t1
  rw [← hw] at t2
  refine ⟨?_, by rw [hw]⟩
  unfold takeN at h8 ⊢
  by_cases c1 : (nextL n.seats e h).2 = 0
  · rw [if_pos c1, if_pos t2] at h8 ⊢
    by_cases c3 : 1024 < sizeN (putN n.ros e.router (applyRo (wasN n.ros e.router) e).1)
    · rw [if_pos c3] at h8; exact absurd rfl h8
    · rw [if_neg c3]
  · rw [if_neg c1] at h8
    rcases hnx with g | g
    · exact absurd g c1
    · exact absurd g h8
theorem apply_take {n : NetT} {e : Ev} {h : Int} (hok : okN n = true) (hz : (takeN n e h).2 = 0) : applyN n e h = takeN n e h := by
  unfold applyN
  rw [hok, if_pos rfl, if_neg (by rw [hz]; decide)]
theorem apply_eight {n : NetT} {e : Ev} {h : Int} (hok : okN n = true) (h8 : (takeN n e h).2 = 8) : (applyN n e h).2 = 8 := by
  unfold applyN
  rw [hok, if_pos rfl, if_neg (by rw [h8]; decide), h8]
theorem apart_net {n : NetT} {e f : Ev} {h : Int} (hne : ¬ e.router = f.router) (w1 : (applyN n e h).2 = 0) (w3 : (applyN (applyN n e h).1 f h).2 = 0) (w2 : ¬ (applyN n f h).2 = 8) (w4 : ¬ (applyN (applyN n f h).1 e h).2 = 8) :
    (applyN n f h).2 = 0 ∧ (applyN (applyN n f h).1 e h).2 = 0 ∧ (applyN (applyN n e h).1 f h).1 = (applyN (applyN n f h).1 e h).1 := by
  obtain ⟨hok, te, ea⟩ := apply_zero w1
  rw [ea] at w3 ⊢
  obtain ⟨hoka, tf, eb⟩ := apply_zero w3
  rw [eb]
  obtain ⟨e1, e2, e3, e4⟩ := take_zero te
  obtain ⟨f1, f2, f3, f4⟩ := take_zero tf
  obtain ⟨qe1, qe2, qe3⟩ := take_q hok te
  have hsa : (takeN n e h).1.seats = seatedL n.seats ⟨e.router, e.seq, e.time, decide (e.kind ≠ 2)⟩ := by rw [e4]; exact next_is e1
  have hra : (takeN n e h).1.ros = putN n.ros e.router (applyRo (wasN n.ros e.router) e).1 := by rw [e4]
  have hl := (okN_parts hok).1
  have sf := seat_apart hl (s := ⟨e.router, e.seq, e.time, decide (e.kind ≠ 2)⟩) (r := f.router) (fun g => hne g.symm)
  obtain ⟨tn, en⟩ := take_like (n := n) (m := (takeN n e h).1) (e := f) (h := h) hok hoka (by rw [hsa]; exact sf.1) (by rw [hsa]; exact sf.2) (fun R hR => by
    rw [hra, mem_put hok]
    exact ⟨fun g => .inr ⟨g, by rw [hR]; exact fun g => hne g.symm⟩, fun g => by
      rcases g with g | g
      · rw [g, qe2] at hR; exact absurd hR hne
      · exact g.1⟩) tf (fun g => w2 (apply_eight hok g))
  have hnf := apply_take hok tn
  rw [hnf] at w4 ⊢
  have hokb := take_right hok tn
  obtain ⟨g1, g2, g3, g4⟩ := take_zero tn
  obtain ⟨qf1, qf2, qf3⟩ := take_q hok tn
  have hsb : (takeN n f h).1.seats = seatedL n.seats ⟨f.router, f.seq, f.time, decide (f.kind ≠ 2)⟩ := by rw [g4]; exact next_is g1
  have hrb : (takeN n f h).1.ros = putN n.ros f.router (applyRo (wasN n.ros f.router) f).1 := by rw [g4]
  have se := seat_apart hl (s := ⟨f.router, f.seq, f.time, decide (f.kind ≠ 2)⟩) (r := e.router) hne
  obtain ⟨tb, eb2⟩ := take_like (n := (takeN n f h).1) (m := n) (e := e) (h := h) hokb hok (by rw [hsb]; exact se.1.symm) (by rw [hsb]; exact se.2.symm) (fun R hR => by
    rw [hrb, mem_put hok]
    exact ⟨fun g => by
      rcases g with g | g
      · rw [g, qf2] at hR; exact absurd hR.symm hne
      · exact g.1, fun g => .inr ⟨g, by rw [hR]; exact hne⟩⟩) te (fun g => w4 (apply_eight hokb g))
  have hbe := apply_take hokb tb
  rw [hbe]
  refine ⟨tn, tb, ?_⟩
  have hx := take_right hoka tf
  have hy := take_right hokb tb
  obtain ⟨k1, k2, k3, k4⟩ := take_zero tb
  have hsx : (takeN (takeN n e h).1 f h).1.seats = seatedL (takeN n e h).1.seats ⟨f.router, f.seq, f.time, decide (f.kind ≠ 2)⟩ := by rw [f4]; exact next_is f1
  have hsy : (takeN (takeN n f h).1 e h).1.seats = seatedL (takeN n f h).1.seats ⟨e.router, e.seq, e.time, decide (e.kind ≠ 2)⟩ := by rw [k4]; exact next_is k1
  have hrx : (takeN (takeN n e h).1 f h).1.ros = putN (takeN n e h).1.ros f.router (applyRo (wasN n.ros f.router) f).1 := by rw [f4, en]
  have hry : (takeN (takeN n f h).1 e h).1.ros = putN (takeN n f h).1.ros e.router (applyRo (wasN n.ros e.router) e).1 := by rw [k4, eb2]
  have hS : (takeN (takeN n e h).1 f h).1.seats = (takeN (takeN n f h).1 e h).1.seats := by
    refine ext_key (fun s : St => s.router) _ _ ((Ord.okL_iff _).1 (okN_parts hx).1).2.2 ((Ord.okL_iff _).1 (okN_parts hy).1).2.2 (fun z => ?_)
    rw [hsx, hsy, mem_seatedL, mem_seatedL, hsa, hsb, mem_seatedL, mem_seatedL]
    simp only
    constructor
    · rintro (rfl | ⟨rfl | ⟨z1, z2⟩, z3⟩)
      · exact .inr ⟨.inl rfl, fun g => hne g.symm⟩
      · exact .inl rfl
      · exact .inr ⟨.inr ⟨z1, z3⟩, z2⟩
    · rintro (rfl | ⟨rfl | ⟨z1, z2⟩, z3⟩)
      · exact .inr ⟨.inl rfl, hne⟩
      · exact .inl rfl
      · exact .inr ⟨.inr ⟨z1, z3⟩, z2⟩
  have hR : (takeN (takeN n e h).1 f h).1.ros = (takeN (takeN n f h).1 e h).1.ros := by
    refine ext_key (fun R : Ro => R.id) _ _ (ros_up hx) (ros_up hy) (fun z => ?_)
    rw [hrx, hry, mem_put hoka, mem_put hokb, hra, hrb, mem_put hok, mem_put hok]
    constructor
    · rintro (g | ⟨g | ⟨z1, z2⟩, z3⟩)
      · exact .inr ⟨.inl g, by rw [g, qf2]; exact fun k => hne k.symm⟩
      · exact .inl g
      · exact .inr ⟨.inr ⟨z1, z3⟩, z2⟩
    · rintro (g | ⟨g | ⟨z1, z2⟩, z3⟩)
      · exact .inr ⟨.inl g, by rw [g, qe2]; exact hne⟩
      · exact .inl g
      · exact .inr ⟨.inr ⟨z1, z3⟩, z2⟩
  cases hA : (takeN (takeN n e h).1 f h).1 with
  | mk s1 r1 =>
    cases hB : (takeN (takeN n f h).1 e h).1 with
    | mk s2 r2 =>
      rw [hA, hB] at hS hR
      simp only at hS hR
      rw [hS, hR]
end Go.Proofs.YtbglbegljkgknaaGreat.Nt
namespace Go.Proofs.YtbglbegljkgknaaGreat
namespace netApart
open Go.ChangeShapes Go.WideShapes Go.ChangeAt Go.RowKit
open Go.ChangeMaps (open_string shut_string)
open Go.Proofs.YtbglbegljkgknaaGreat.Lk (HasLks HasRow HasLks.keep hasRow_own)
open Go.Proofs.YtbglbegljkgknaaGreat.Tr (Rt HasRts HasRts.keep)
open Go.Proofs.YtbglbegljkgknaaGreat.Msg (Ev Ac okE FitE evV evC)
open Go.Proofs.YtbglbegljkgknaaGreat.Fib (Ro RoIs FitRo cells12)
open Go.Proofs.YtbglbegljkgknaaGreat.Nt
open Go.Proofs.YtbglbegljkgknaaGreat.Ord (St HasSts HasSts.keep nextL okL)
open Go.Proofs.YtbglbegljkgknaaGreat.Addr (RowAt below2 below_drew below_new bset RowAt.lt RowAt.cell RowAt.frozen RowAt.below RowAt.drew RowAt.new RowAt.alloc RowAt.set1 RowAt.gkeep gset grefl cells2 cells4 hiN loN)
theorem own : ownKnob Tryz.prog.godebug = none := by kernel_rfl
theorem laidOut : laidOutB Tryz.prog = true := by kernel_rfl
set_option maxHeartbeats 16000000 in
set_option maxRecDepth 20000 in
theorem walk_one (so lo : Option Addr) (sn sc ln lc : Nat) (ea eb ec ed : Int) (ee : Bool) (ef eg eh ei ej ek el : Int) (fa fb fc fd : Int) (fe : Bool) (ff_ fg fh fi fj fk fl : Int) (h : Int) (S : List St) (L : List Ro) (A B X Y : NetT) (z1 z2 z3 z4 : Int) (w : World) (hS : HasSts w (.slice so sn sc) S) (hL : HasRos w (.slice lo ln lc) L) (hq : Hid (eb = fb)) :
    Calls Tryz.prog 6 #[.agg #[.slice so sn sc, .slice lo ln lc], .agg #[.int .u8 ea, .int .i64 eb, .int .u64 ec, .int .i64 ed, .bool ee, .int .u64 ef, .int .u64 eg, .int .i64 eh, .int .u8 ei, .int .i64 ej, .int .i64 ek, .int .i64 el], .agg #[.int .u8 fa, .int .i64 fb, .int .u64 fc, .int .i64 fd, .bool fe, .int .u64 ff_, .int .u64 fg, .int .i64 fh, .int .u8 fi, .int .i64 fj, .int .i64 fk, .int .i64 fl], .int .i64 h] w (BoolIs true w) := by
  have hB := Below.refl w.heap.size w
  go_enter Tryz.func6, Tryz.ntmps6
  obtain ⟨Y1, hY⟩ : ∃ Y, Y = (((w.alloc (.cells #[.slice so sn sc, .slice lo ln lc] 25)).alloc (.cells #[.int .u8 ea, .int .i64 eb, .int .u64 ec, .int .i64 ed, .bool ee, .int .u64 ef, .int .u64 eg, .int .i64 eh, .int .u8 ei, .int .i64 ej, .int .i64 ek, .int .i64 el] 38)).alloc (.cells #[.int .u8 fa, .int .i64 fb, .int .u64 fc, .int .i64 fd, .bool fe, .int .u64 ff_, .int .u64 fg, .int .i64 fh, .int .u8 fi, .int .i64 fj, .int .i64 fk, .int .i64 fl] 38)) := ⟨_, rfl⟩
  have hbY : Below w.heap.size w Y1 := by rw [hY]; exact below_new (below_new (below_new (Below.refl _ _) _) _) _
  have hle : w.heap.size ≤ w.heap.size := hB.size
  obtain ⟨gn, hgn⟩ : ∃ g, g = w.heap.size := ⟨_, rfl⟩
  have rn : RowAt Y1 gn [.slice so sn sc, .slice lo ln lc] 25 := by
    have h := ((RowAt.new w [.slice so sn sc, .slice lo ln lc] 25).alloc (.cells #[.int .u8 ea, .int .i64 eb, .int .u64 ec, .int .i64 ed, .bool ee, .int .u64 ef, .int .u64 eg, .int .i64 eh, .int .u8 ei, .int .i64 ej, .int .i64 ek, .int .i64 el] 38)).alloc (.cells #[.int .u8 fa, .int .i64 fb, .int .u64 fc, .int .i64 fd, .bool fe, .int .u64 ff_, .int .u64 fg, .int .i64 fh, .int .u8 fi, .int .i64 fj, .int .i64 fk, .int .i64 fl] 38)
    rw [hgn, hY]; exact h
  have len : w.heap.size ≤ gn := by omega
  obtain ⟨ge, hge⟩ : ∃ g, g = w.heap.size + 1 := ⟨_, rfl⟩
  have re : RowAt Y1 ge [.int .u8 ea, .int .i64 eb, .int .u64 ec, .int .i64 ed, .bool ee, .int .u64 ef, .int .u64 eg, .int .i64 eh, .int .u8 ei, .int .i64 ej, .int .i64 ek, .int .i64 el] 38 := by
    have h := (RowAt.new (w.alloc (.cells #[.slice so sn sc, .slice lo ln lc] 25)) [.int .u8 ea, .int .i64 eb, .int .u64 ec, .int .i64 ed, .bool ee, .int .u64 ef, .int .u64 eg, .int .i64 eh, .int .u8 ei, .int .i64 ej, .int .i64 ek, .int .i64 el] 38).alloc (.cells #[.int .u8 fa, .int .i64 fb, .int .u64 fc, .int .i64 fd, .bool fe, .int .u64 ff_, .int .u64 fg, .int .i64 fh, .int .u8 fi, .int .i64 fj, .int .i64 fk, .int .i64 fl] 38)
    simp only [World.size_alloc] at h
    rw [hge, hY]; exact h
  have lee : w.heap.size ≤ ge := by omega
  have nene : gn ≠ ge := by omega
  obtain ⟨gq, hgq⟩ : ∃ g, g = w.heap.size + 1 + 1 := ⟨_, rfl⟩
  have rq : RowAt Y1 gq [.int .u8 fa, .int .i64 fb, .int .u64 fc, .int .i64 fd, .bool fe, .int .u64 ff_, .int .u64 fg, .int .i64 fh, .int .u8 fi, .int .i64 fj, .int .i64 fk, .int .i64 fl] 38 := by
    have h := RowAt.new ((w.alloc (.cells #[.slice so sn sc, .slice lo ln lc] 25)).alloc (.cells #[.int .u8 ea, .int .i64 eb, .int .u64 ec, .int .i64 ed, .bool ee, .int .u64 ef, .int .u64 eg, .int .i64 eh, .int .u8 ei, .int .i64 ej, .int .i64 ek, .int .i64 el] 38)) [.int .u8 fa, .int .i64 fb, .int .u64 fc, .int .i64 fd, .bool fe, .int .u64 ff_, .int .u64 fg, .int .i64 fh, .int .u8 fi, .int .i64 fj, .int .i64 fk, .int .i64 fl] 38
    simp only [World.size_alloc] at h
    rw [hgq, hY]; exact h
  have leq : w.heap.size ≤ gq := by omega
  have nenq : gn ≠ gq := by omega
  have neeq : ge ≠ gq := by omega
  replace hS := hS.keep hbY
  replace hL := hL.keep hbY
  replace hB := below2 hB hbY
  go_upto_region 1 with fail
  rw [← hY, ← hgq, ← hge, ← hgn]
  clear hY hbY hle hgn hge hgq
  go_wp2_with fail
  go_at_call 14; refine (lives_any _).mono ?_; rintro e w2 ⟨rfl, hb⟩
  replace rn := RowAt.below rn hb
  replace re := RowAt.below re hb
  replace rq := RowAt.below rq hb
  replace hS := hS.keep hb
  replace hL := hL.keep hb
  replace hB := below2 hB hb
  clear hb
  have hqb : (eb == fb) = true := by rw [hq.out]; simp
  obtain ⟨e0, e1, e2, e3, e4, e5, e6, e7, e8, e9, e10, e11, ef⟩ := cells12 re
  obtain ⟨q0, q1, q2, q3, q4, q5, q6, q7, q8, q9, q10, q11, qf⟩ := cells12 rq
  go_wp2_with fail
  go_ret
  exact ⟨rfl, hB⟩
set_option maxHeartbeats 16000000 in
set_option maxRecDepth 20000 in
theorem walk_two (so lo : Option Addr) (sn sc ln lc : Nat) (ea eb ec ed : Int) (ee : Bool) (ef eg eh ei ej ek el : Int) (fa fb fc fd : Int) (fe : Bool) (ff_ fg fh fi fj fk fl : Int) (h : Int) (S : List St) (L : List Ro) (A B X Y : NetT) (z1 z2 z3 z4 : Int) (w : World) (hS : HasSts w (.slice so sn sc) S) (hL : HasRos w (.slice lo ln lc) L) (hq : ¬ eb = fb) (c1 : ∀ W u v, HasSts W u S → HasRos W v L → Calls Tryz.prog 9 #[.agg #[u, v], .agg #[.int .u8 ea, .int .i64 eb, .int .u64 ec, .int .i64 ed, .bool ee, .int .u64 ef, .int .u64 eg, .int .i64 eh, .int .u8 ei, .int .i64 ej, .int .i64 ek, .int .i64 el], .int .i64 h] W (NetIs A z1 W)) (c2 : ∀ W u v, HasSts W u S → HasRos W v L → Calls Tryz.prog 9 #[.agg #[u, v], .agg #[.int .u8 fa, .int .i64 fb, .int .u64 fc, .int .i64 fd, .bool fe, .int .u64 ff_, .int .u64 fg, .int .i64 fh, .int .u8 fi, .int .i64 fj, .int .i64 fk, .int .i64 fl], .int .i64 h] W (NetIs B z2 W)) (c3 : ∀ W u v, HasSts W u A.seats → HasRos W v A.ros → Calls Tryz.prog 9 #[.agg #[u, v], .agg #[.int .u8 fa, .int .i64 fb, .int .u64 fc, .int .i64 fd, .bool fe, .int .u64 ff_, .int .u64 fg, .int .i64 fh, .int .u8 fi, .int .i64 fj, .int .i64 fk, .int .i64 fl], .int .i64 h] W (NetIs X z3 W)) (c4 : ∀ W u v, HasSts W u B.seats → HasRos W v B.ros → Calls Tryz.prog 9 #[.agg #[u, v], .agg #[.int .u8 ea, .int .i64 eb, .int .u64 ec, .int .i64 ed, .bool ee, .int .u64 ef, .int .u64 eg, .int .i64 eh, .int .u8 ei, .int .i64 ej, .int .i64 ek, .int .i64 el], .int .i64 h] W (NetIs Y z4 W)) (HZ : Hid (¬ z1 = 0 ∨ (z1 = 0 ∧ ¬ z3 = 0) ∨ (z1 = 0 ∧ z3 = 0 ∧ z2 = 8) ∨ (z1 = 0 ∧ z3 = 0 ∧ z2 = 0 ∧ z4 = 8) ∨ (z1 = 0 ∧ z3 = 0 ∧ ¬ z2 = 8 ∧ z4 = 8) ∨ (z1 = 0 ∧ z3 = 0 ∧ z2 = 0 ∧ z4 = 0 ∧ X = Y))) :
    Calls Tryz.prog 6 #[.agg #[.slice so sn sc, .slice lo ln lc], .agg #[.int .u8 ea, .int .i64 eb, .int .u64 ec, .int .i64 ed, .bool ee, .int .u64 ef, .int .u64 eg, .int .i64 eh, .int .u8 ei, .int .i64 ej, .int .i64 ek, .int .i64 el], .agg #[.int .u8 fa, .int .i64 fb, .int .u64 fc, .int .i64 fd, .bool fe, .int .u64 ff_, .int .u64 fg, .int .i64 fh, .int .u8 fi, .int .i64 fj, .int .i64 fk, .int .i64 fl], .int .i64 h] w (BoolIs true w) := by
  have hB := Below.refl w.heap.size w
  go_enter Tryz.func6, Tryz.ntmps6
  obtain ⟨Y1, hY⟩ : ∃ Y, Y = (((w.alloc (.cells #[.slice so sn sc, .slice lo ln lc] 25)).alloc (.cells #[.int .u8 ea, .int .i64 eb, .int .u64 ec, .int .i64 ed, .bool ee, .int .u64 ef, .int .u64 eg, .int .i64 eh, .int .u8 ei, .int .i64 ej, .int .i64 ek, .int .i64 el] 38)).alloc (.cells #[.int .u8 fa, .int .i64 fb, .int .u64 fc, .int .i64 fd, .bool fe, .int .u64 ff_, .int .u64 fg, .int .i64 fh, .int .u8 fi, .int .i64 fj, .int .i64 fk, .int .i64 fl] 38)) := ⟨_, rfl⟩
  have hbY : Below w.heap.size w Y1 := by rw [hY]; exact below_new (below_new (below_new (Below.refl _ _) _) _) _
  have hle : w.heap.size ≤ w.heap.size := hB.size
  obtain ⟨gn, hgn⟩ : ∃ g, g = w.heap.size := ⟨_, rfl⟩
  have rn : RowAt Y1 gn [.slice so sn sc, .slice lo ln lc] 25 := by
    have h := ((RowAt.new w [.slice so sn sc, .slice lo ln lc] 25).alloc (.cells #[.int .u8 ea, .int .i64 eb, .int .u64 ec, .int .i64 ed, .bool ee, .int .u64 ef, .int .u64 eg, .int .i64 eh, .int .u8 ei, .int .i64 ej, .int .i64 ek, .int .i64 el] 38)).alloc (.cells #[.int .u8 fa, .int .i64 fb, .int .u64 fc, .int .i64 fd, .bool fe, .int .u64 ff_, .int .u64 fg, .int .i64 fh, .int .u8 fi, .int .i64 fj, .int .i64 fk, .int .i64 fl] 38)
    rw [hgn, hY]; exact h
  have len : w.heap.size ≤ gn := by omega
  obtain ⟨ge, hge⟩ : ∃ g, g = w.heap.size + 1 := ⟨_, rfl⟩
  have re : RowAt Y1 ge [.int .u8 ea, .int .i64 eb, .int .u64 ec, .int .i64 ed, .bool ee, .int .u64 ef, .int .u64 eg, .int .i64 eh, .int .u8 ei, .int .i64 ej, .int .i64 ek, .int .i64 el] 38 := by
    have h := (RowAt.new (w.alloc (.cells #[.slice so sn sc, .slice lo ln lc] 25)) [.int .u8 ea, .int .i64 eb, .int .u64 ec, .int .i64 ed, .bool ee, .int .u64 ef, .int .u64 eg, .int .i64 eh, .int .u8 ei, .int .i64 ej, .int .i64 ek, .int .i64 el] 38).alloc (.cells #[.int .u8 fa, .int .i64 fb, .int .u64 fc, .int .i64 fd, .bool fe, .int .u64 ff_, .int .u64 fg, .int .i64 fh, .int .u8 fi, .int .i64 fj, .int .i64 fk, .int .i64 fl] 38)
    simp only [World.size_alloc] at h
    rw [hge, hY]; exact h
  have lee : w.heap.size ≤ ge := by omega
  have nene : gn ≠ ge := by omega
  obtain ⟨gq, hgq⟩ : ∃ g, g = w.heap.size + 1 + 1 := ⟨_, rfl⟩
  have rq : RowAt Y1 gq [.int .u8 fa, .int .i64 fb, .int .u64 fc, .int .i64 fd, .bool fe, .int .u64 ff_, .int .u64 fg, .int .i64 fh, .int .u8 fi, .int .i64 fj, .int .i64 fk, .int .i64 fl] 38 := by
    have h := RowAt.new ((w.alloc (.cells #[.slice so sn sc, .slice lo ln lc] 25)).alloc (.cells #[.int .u8 ea, .int .i64 eb, .int .u64 ec, .int .i64 ed, .bool ee, .int .u64 ef, .int .u64 eg, .int .i64 eh, .int .u8 ei, .int .i64 ej, .int .i64 ek, .int .i64 el] 38)) [.int .u8 fa, .int .i64 fb, .int .u64 fc, .int .i64 fd, .bool fe, .int .u64 ff_, .int .u64 fg, .int .i64 fh, .int .u8 fi, .int .i64 fj, .int .i64 fk, .int .i64 fl] 38
    simp only [World.size_alloc] at h
    rw [hgq, hY]; exact h
  have leq : w.heap.size ≤ gq := by omega
  have nenq : gn ≠ gq := by omega
  have neeq : ge ≠ gq := by omega
  replace hS := hS.keep hbY
  replace hL := hL.keep hbY
  replace hB := below2 hB hbY
  go_upto_region 1 with fail
  rw [← hY, ← hgq, ← hge, ← hgn]
  clear hY hbY hle hgn hge hgq
  go_wp2_with fail
  go_at_call 14; refine (lives_any _).mono ?_; rintro e w2 ⟨rfl, hb⟩
  replace rn := RowAt.below rn hb
  replace re := RowAt.below re hb
  replace rq := RowAt.below rq hb
  replace hS := hS.keep hb
  replace hL := hL.keep hb
  replace hB := below2 hB hb
  clear hb
  have hqb : (eb == fb) = false := beq_eq_false_iff_ne.2 hq
  obtain ⟨n0, n1, nf⟩ := cells2 rn
  obtain ⟨e0, e1, e2, e3, e4, e5, e6, e7, e8, e9, e10, e11, ef⟩ := cells12 re
  obtain ⟨q0, q1, q2, q3, q4, q5, q6, q7, q8, q9, q10, q11, qf⟩ := cells12 rq
  go_wp2_with fail
  clear n0 n1 nf e0 e1 e2 e3 e4 e5 e6 e7 e8 e9 e10 e11 ef q0 q1 q2 q3 q4 q5 q6 q7 q8 q9 q10 q11 qf
  go_at_call 9; refine (c1 _ _ _ hS hL).mono ?_; rintro e w3 ⟨a1, b1, c1_, d1, i1, g1_, rfl, hT1, hM1, hb⟩
  replace rn := RowAt.below rn hb
  replace re := RowAt.below re hb
  replace rq := RowAt.below rq hb
  replace hS := hS.keep hb
  replace hL := hL.keep hb
  replace hB := below2 hB hb
  clear hb
  obtain ⟨Y4, hY⟩ : ∃ Y, Y = (w3.alloc (.cells #[.slice a1 b1 c1_, .slice d1 i1 g1_] 25)) := ⟨_, rfl⟩
  have hbY : Below w3.heap.size w3 Y4 := by rw [hY]; exact below_new (Below.refl _ _) _
  have hle : w.heap.size ≤ w3.heap.size := hB.size
  obtain ⟨ga, hga⟩ : ∃ g, g = w3.heap.size := ⟨_, rfl⟩
  have ra : RowAt Y4 ga [.slice a1 b1 c1_, .slice d1 i1 g1_] 25 := by
    have h := RowAt.new w3 [.slice a1 b1 c1_, .slice d1 i1 g1_] 25
    rw [hga, hY]; exact h
  have lea : w.heap.size ≤ ga := by omega
  have nena : gn ≠ ga := by have := RowAt.lt rn; omega
  have neea : ge ≠ ga := by have := RowAt.lt re; omega
  have neqa : gq ≠ ga := by have := RowAt.lt rq; omega
  replace rn := RowAt.below rn hbY
  replace re := RowAt.below re hbY
  replace rq := RowAt.below rq hbY
  replace hS := hS.keep hbY
  replace hL := hL.keep hbY
  replace hT1 := hT1.keep hbY
  replace hM1 := hM1.keep hbY
  replace hB := below2 hB hbY
  go_upto_region 6 with fail
  rw [← hY, ← hga]
  clear hY hbY hle hga
  obtain ⟨n0, n1, nf⟩ := cells2 rn
  obtain ⟨q0, q1, q2, q3, q4, q5, q6, q7, q8, q9, q10, q11, qf⟩ := cells12 rq
  go_wp2_with fail
  clear n0 n1 nf q0 q1 q2 q3 q4 q5 q6 q7 q8 q9 q10 q11 qf
  go_at_call 9; refine (c2 _ _ _ hS hL).mono ?_; rintro e w5 ⟨a2, b2, c2_, d2, i2, g2_, rfl, hT2, hM2, hb⟩
  replace rn := RowAt.below rn hb
  replace re := RowAt.below re hb
  replace rq := RowAt.below rq hb
  replace ra := RowAt.below ra hb
  replace hS := hS.keep hb
  replace hL := hL.keep hb
  replace hT1 := hT1.keep hb
  replace hM1 := hM1.keep hb
  replace hB := below2 hB hb
  clear hb
  clear rn hS hL
  obtain ⟨Y6, hY⟩ : ∃ Y, Y = (w5.alloc (.cells #[.slice a2 b2 c2_, .slice d2 i2 g2_] 25)) := ⟨_, rfl⟩
  have hbY : Below w5.heap.size w5 Y6 := by rw [hY]; exact below_new (Below.refl _ _) _
  have hle : w.heap.size ≤ w5.heap.size := hB.size
  obtain ⟨gb, hgb⟩ : ∃ g, g = w5.heap.size := ⟨_, rfl⟩
  have rb : RowAt Y6 gb [.slice a2 b2 c2_, .slice d2 i2 g2_] 25 := by
    have h := RowAt.new w5 [.slice a2 b2 c2_, .slice d2 i2 g2_] 25
    rw [hgb, hY]; exact h
  have leb : w.heap.size ≤ gb := by omega
  have neeb : ge ≠ gb := by have := RowAt.lt re; omega
  have neqb : gq ≠ gb := by have := RowAt.lt rq; omega
  have neab : ga ≠ gb := by have := RowAt.lt ra; omega
  replace re := RowAt.below re hbY
  replace rq := RowAt.below rq hbY
  replace ra := RowAt.below ra hbY
  replace hT1 := hT1.keep hbY
  replace hM1 := hM1.keep hbY
  replace hT2 := hT2.keep hbY
  replace hM2 := hM2.keep hbY
  replace hB := below2 hB hbY
  go_upto_region 7 with fail
  rw [← hY, ← hgb]
  clear hY hbY hle hgb
  obtain ⟨a0, a1, af⟩ := cells2 ra
  obtain ⟨q0, q1, q2, q3, q4, q5, q6, q7, q8, q9, q10, q11, qf⟩ := cells12 rq
  go_wp2_with fail
  clear a0 a1 af q0 q1 q2 q3 q4 q5 q6 q7 q8 q9 q10 q11 qf
  go_at_call 9; refine (c3 _ _ _ hT1 hM1).mono ?_; rintro e w7 ⟨a3, b3, c3_, d3, i3, g3_, rfl, hT3, hM3, hb⟩
  replace re := RowAt.below re hb
  replace rq := RowAt.below rq hb
  replace ra := RowAt.below ra hb
  replace rb := RowAt.below rb hb
  replace hT1 := hT1.keep hb
  replace hM1 := hM1.keep hb
  replace hT2 := hT2.keep hb
  replace hM2 := hM2.keep hb
  replace hB := below2 hB hb
  clear hb
  clear ra rq hT1 hM1
  obtain ⟨Y8, hY⟩ : ∃ Y, Y = (w7.alloc (.cells #[.slice a3 b3 c3_, .slice d3 i3 g3_] 25)) := ⟨_, rfl⟩
  have hbY : Below w7.heap.size w7 Y8 := by rw [hY]; exact below_new (Below.refl _ _) _
  have hle : w.heap.size ≤ w7.heap.size := hB.size
  obtain ⟨gx, hgx⟩ : ∃ g, g = w7.heap.size := ⟨_, rfl⟩
  have rx : RowAt Y8 gx [.slice a3 b3 c3_, .slice d3 i3 g3_] 25 := by
    have h := RowAt.new w7 [.slice a3 b3 c3_, .slice d3 i3 g3_] 25
    rw [hgx, hY]; exact h
  have lex : w.heap.size ≤ gx := by omega
  have neex : ge ≠ gx := by have := RowAt.lt re; omega
  have nebx : gb ≠ gx := by have := RowAt.lt rb; omega
  replace re := RowAt.below re hbY
  replace rb := RowAt.below rb hbY
  replace hT2 := hT2.keep hbY
  replace hM2 := hM2.keep hbY
  replace hT3 := hT3.keep hbY
  replace hM3 := hM3.keep hbY
  replace hB := below2 hB hbY
  go_upto_region 8 with fail
  rw [← hY, ← hgx]
  clear hY hbY hle hgx
  obtain ⟨b0, b1, bf⟩ := cells2 rb
  obtain ⟨e0, e1, e2, e3, e4, e5, e6, e7, e8, e9, e10, e11, ef⟩ := cells12 re
  go_wp2_with fail
  clear b0 b1 bf e0 e1 e2 e3 e4 e5 e6 e7 e8 e9 e10 e11 ef
  go_at_call 9; refine (c4 _ _ _ hT2 hM2).mono ?_; rintro e w9 ⟨a4, b4, c4_, d4, i4, g4_, rfl, hT4, hM4, hb⟩
  replace re := RowAt.below re hb
  replace rb := RowAt.below rb hb
  replace rx := RowAt.below rx hb
  replace hT2 := hT2.keep hb
  replace hM2 := hM2.keep hb
  replace hT3 := hT3.keep hb
  replace hM3 := hM3.keep hb
  replace hB := below2 hB hb
  clear hb
  clear rb re hT2 hM2
  obtain ⟨Y10, hY⟩ : ∃ Y, Y = (w9.alloc (.cells #[.slice a4 b4 c4_, .slice d4 i4 g4_] 25)) := ⟨_, rfl⟩
  have hbY : Below w9.heap.size w9 Y10 := by rw [hY]; exact below_new (Below.refl _ _) _
  have hle : w.heap.size ≤ w9.heap.size := hB.size
  obtain ⟨gy, hgy⟩ : ∃ g, g = w9.heap.size := ⟨_, rfl⟩
  have ry : RowAt Y10 gy [.slice a4 b4 c4_, .slice d4 i4 g4_] 25 := by
    have h := RowAt.new w9 [.slice a4 b4 c4_, .slice d4 i4 g4_] 25
    rw [hgy, hY]; exact h
  have ley : w.heap.size ≤ gy := by omega
  have nexy : gx ≠ gy := by have := RowAt.lt rx; omega
  replace rx := RowAt.below rx hbY
  replace hT3 := hT3.keep hbY
  replace hM3 := hM3.keep hbY
  replace hT4 := hT4.keep hbY
  replace hM4 := hM4.keep hbY
  replace hB := below2 hB hbY
  go_upto_region 9 with fail
  rw [← hY, ← hgy]
  clear hY hbY hle hgy
  clear c1 c2 c3 c4
  rcases HZ.out with g | ⟨g, g3⟩ | ⟨g, g3, g2⟩ | ⟨g, g3, g2, g4⟩ | ⟨g, g3, g2, g4⟩ | ⟨g, g3, g2, g4, g5⟩
  · have hb1 : (z1 != 0) = true := bne_iff_ne.2 g
    go_wp2_with fail
    go_ret
    exact ⟨rfl, hB⟩
  · subst g
    have hb3 : (z3 != 0) = true := bne_iff_ne.2 g3
    go_wp2_with fail
    go_ret
    exact ⟨rfl, hB⟩
  · subst g g3 g2
    go_wp2_with fail
    go_ret
    exact ⟨rfl, hB⟩
  · subst g g3 g2 g4
    go_wp2_with fail
    go_ret
    exact ⟨rfl, hB⟩
  · subst g g3 g4
    have hb2 : (z2 == 8) = false := beq_eq_false_iff_ne.2 g2
    go_wp2_with fail
    go_ret
    exact ⟨rfl, hB⟩
  · subst g g3 g2 g4 g5
    obtain ⟨u0, u1, uf⟩ := cells2 rx
    obtain ⟨v0, v1, vf⟩ := cells2 ry
    go_wp2_with fail
    go_at_call 11; refine (same_any X _ _ _ _ _ hT3 hM3 hT4 hM4).mono ?_; rintro e we ⟨rfl, hb⟩
    replace hB := below2 hB hb
    go_wp2_with fail
    go_ret
    exact ⟨rfl, hB⟩
theorem fit_applyN {n : NetT} {e : Ev} {h : Int} (hf : FitN n) (he : FitE e) : FitN (applyN n e h).1 := by
  unfold applyN
  cases hok : okN n with
  | false => exact fitz
  | true =>
    simp only [if_true]
    split
    · exact fitz
    · exact fit_take hf hok he
theorem walk (n : NetT) (x y : Value) (e f : Ev) (h : Int) (w : World) (b0 : HasSts w x n.seats) (c0 : HasRos w y n.ros) (f0 : FitN n) (b1 : FitE e) (b2 : FitE f) (b3 : -9223372036854775808 ≤ h ∧ h ≤ 9223372036854775807) :
    Calls Tryz.prog 6 #[.agg #[x, y], evV e, evV f, .int .i64 h] w fun e w' => e = .returned (.bool true) ∧ Below w.heap.size w w' := by
  obtain ⟨so, sc, rfl, _⟩ := Ord.HasRow.slice b0
  obtain ⟨lo, lc, rfl, q1, q2⟩ := HasRos.slice c0
  by_cases hq : e.router = f.router
  · exact walk_one so lo _ sc _ lc (e.kind : Int) e.router (e.seq : Int) e.time e.pf.six (hiN e.pf.n : Int) (loN e.pf.n : Int) e.pf.len (e.act.k : Int) e.act.i e.iface e.peer (f.kind : Int) f.router (f.seq : Int) f.time f.pf.six (hiN f.pf.n : Int) (loN f.pf.n : Int) f.pf.len (f.act.k : Int) f.act.i f.iface f.peer h n.seats n.ros zeroN zeroN zeroN zeroN 0 0 0 0 w b0 c0 hq
  · refine walk_two so lo _ sc _ lc (e.kind : Int) e.router (e.seq : Int) e.time e.pf.six (hiN e.pf.n : Int) (loN e.pf.n : Int) e.pf.len (e.act.k : Int) e.act.i e.iface e.peer (f.kind : Int) f.router (f.seq : Int) f.time f.pf.six (hiN f.pf.n : Int) (loN f.pf.n : Int) f.pf.len (f.act.k : Int) f.act.i f.iface f.peer h n.seats n.ros (applyN n e h).1 (applyN n f h).1 (applyN (applyN n e h).1 f h).1 (applyN (applyN n f h).1 e h).1 _ _ _ _ w b0 c0 hq (fun W u v h1 h2 => apply_any n e h u v W h1 h2 f0 b1) (fun W u v h1 h2 => apply_any n f h u v W h1 h2 f0 b2) (fun W u v h1 h2 => apply_any (applyN n e h).1 f h u v W h1 h2 (fit_applyN f0 b1) b2) (fun W u v h1 h2 => apply_any (applyN n f h).1 e h u v W h1 h2 (fit_applyN f0 b2) b1) ?_
    by_cases w1 : (applyN n e h).2 = 0
    · by_cases w3 : (applyN (applyN n e h).1 f h).2 = 0
      · by_cases w2 : (applyN n f h).2 = 8
        · exact .inr (.inr (.inl ⟨w1, w3, w2⟩))
        · by_cases w4 : (applyN (applyN n f h).1 e h).2 = 8
          · exact .inr (.inr (.inr (.inr (.inl ⟨w1, w3, w2, w4⟩))))
          · obtain ⟨r1, r2, r3⟩ := apart_net hq w1 w3 w2 w4
            exact .inr (.inr (.inr (.inr (.inr ⟨w1, w3, r1, r2, r3⟩))))
      · exact .inr (.inl ⟨w1, w3⟩)
    · exact .inl w1

set_option maxRecDepth 100000 in
theorem lifted (os : Os) (started : os.Started) (H : Type) (enc : TypeId × Value → H) :
    ReturnsInHanded {} Tryz.checked os 6 .any (Rows.netApartSpec.pre6 enc Tryz.prog Tryz.f6 Rows.netApartRow.domain false) (Rows.netApartSpec.post enc Tryz.prog Tryz.f6 false true false false) := by
  refine returnsInHanded_of_change_sized (C := Tryz.checked) own started (by kernel_rfl) Tryz.func6
    (ChangeSpec.witness6 (enc := enc) (C := Tryz.checked) false ⟨#[], #[.agg #[.slice none 0 0, .slice none 0 0], .agg #[.int .u8 0, .int .i64 0, .int .u64 0, .int .i64 0, .bool false, .int .u64 0, .int .u64 0, .int .i64 0, .int .u8 0, .int .i64 0, .int .i64 0, .int .i64 0], .agg #[.int .u8 0, .int .i64 0, .int .u64 0, .int .i64 0, .bool false, .int .u64 0, .int .u64 0, .int .i64 0, .int .u8 0, .int .i64 0, .int .i64 0, .int .i64 0], .int .i64 0], []⟩ 8 (by kernel_rfl) (by kernel_rfl) (by kernel_rfl) (by kernel_rfl)) ?_
  intro W base args ds gs before hval0 hW _ hsz0 _
  have hsz : (DataW.weightsEach Tryz.prog (Tryz.f6.params.toList ++ Rows.netApartSpec.plain.varTypes Tryz.prog) (ds ++ gs)).all (· ≤ reachBytes) = true := hsz0
  clear hsz0
  have hval : ∀ (j : Nat) t v, Tryz.f6.params[j]? = some t → args[j]? = some v → Value.okWide Tryz.prog W .any base t v := hval0
  have hW' := hW
  obtain ⟨p, q, hA0, hV, rfl, hfz, hnd⟩ := hW
  have hA : DataW.TrodAll enc Tryz.prog W 0 (fun _ => true) true Tryz.f6.params.toList args.toList ds p := hA0
  rw [Tryz.params6] at hA hval hsz
  obtain ⟨v0, vs0, d0, ds0, p0, q0, hargs, rfl, rfl, h0, r0⟩ := trodAll_cons hA
  obtain ⟨v1, vs1, d1, ds1, p1, q1, rfl, rfl, rfl, h1, r1⟩ := trodAll_cons r0
  obtain ⟨v2, vs2, d2, ds2, p2, q2, rfl, rfl, rfl, h2, r2⟩ := trodAll_cons r1
  obtain ⟨v3, vs3, d3, ds3, p3, q3, rfl, rfl, rfl, h3, r3⟩ := trodAll_cons r2
  obtain ⟨rfl, rfl, rfl⟩ := trodAll_nil r3
  obtain rfl : args = #[v0, v1, v2, v3] := by cases args; simp_all
  obtain ⟨rfl, rfl⟩ := trodVars_none hV
  have k0 := h0
  have lt0 : ∀ x ∈ p0, x.block < W.heap.size := by obtain ⟨m, hm⟩ := k0; exact DataW.trod_lt m _ _ _ hm
  obtain ⟨N0, x0, y0, rfl, b0, c0, f0⟩ := Nt.open_net (hval 0 25 v0 rfl rfl) h0
  have k1 := h1
  have lt1 : ∀ x ∈ p1, x.block < W.heap.size := by obtain ⟨m, hm⟩ := k1; exact DataW.trod_lt m _ _ _ hm
  obtain ⟨n1, rfl, b1⟩ := Msg.open_event (hval 1 38 v1 rfl rfl) h1
  have k2 := h2
  have lt2 : ∀ x ∈ p2, x.block < W.heap.size := by obtain ⟨m, hm⟩ := k2; exact DataW.trod_lt m _ _ _ hm
  obtain ⟨n2, rfl, b2⟩ := Msg.open_event (hval 2 38 v2 rfl rfl) h2
  obtain ⟨a3, rfl, rfl, rfl, w3⟩ := open_int Tryz.underlying2 (hval 3 2 v3 rfl rfl) h3
  have b3 : -9223372036854775808 ≤ a3 ∧ a3 ≤ 9223372036854775807 := by simpa [Lit.wf, IntKind.min, IntKind.max, IntKind.signed, IntKind.bits] using w3
  clear hA0 hval0
  refine (walk N0 x0 y0 n1 n2 a3 W b0 c0 f0 b1 b2 b3).mono fun e W' ⟨he, bel⟩ => ?_
  subst he
  exact ⟨_, rfl, _, _, _, [], _, [], hW', trodAll_mk1 (shut_bool Tryz.underlying4 _), (trodAll_cons_mk (Below.trod laidOut (by kernel_rfl) (of_decide_eq_true (by kernel_rfl)) k0 bel lt0) (trodAll_cons_mk (Below.trod laidOut (by kernel_rfl) (of_decide_eq_true (by kernel_rfl)) k1 bel lt1) (trodAll_cons_mk (Below.trod laidOut (by kernel_rfl) (of_decide_eq_true (by kernel_rfl)) k2 bel lt2) (trodAll_cons_mk (shut_int Tryz.underlying2 w3) trodAll_mk0)))), rfl, bel.frame _, fun h => by cases h⟩

theorem over : Rows.netApartRow.holds Tryz.pinned (OpenSpec.ofChange Rows.netApartSpec) :=
  OpenClaim.holds_of_wide 6 Tryz.f6 rfl rfl rfl rfl rfl rfl rfl ⟨rfl, rfl, rfl, rfl, rfl⟩ rfl rfl rfl rfl rfl (by kernel_rfl) Tryz.func6 (by kernel_rfl)
    (of_decide_eq_true (by kernel_rfl)) (by unfold Func.isWrapper; first | (rw [if_pos (by decide +kernel)]; kernel_rfl) | (rw [if_neg (by decide +kernel)]; exact ⟨rfl, rfl⟩))
    (fun os started H enc _ => lifted os started H enc)
end netApart
theorem napart_holds : Rows.NetApartSaid := netApart.over
#print axioms napart_holds
end Go.Proofs.YtbglbegljkgknaaGreat
