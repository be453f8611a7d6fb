/- Events that a net takes, router by router, and one router's behind the other's, plain. -/
import Derived.Test.YtkjhnefbcnnjlaaTv27
set_option linter.unusedVariables false
namespace Go.Proofs.Ytkjhnefbcnnjlaa.Nt
open Go.Proofs.Ytkjhnefbcnnjlaa.Msg (Ev okE)
open Go.Proofs.Ytkjhnefbcnnjlaa.Fib
open Go.Proofs.Ytkjhnefbcnnjlaa.Ord (St nextL askL misL findL isIn seatOf ofR of_snoc)
theorem putT_le (l : List Tr.Rt) (x : Tr.Rt) : (Tr.putT l x).1.length ≤ l.length + 1 := by
  unfold Tr.putT
  split
  · split
    · show l.length ≤ l.length + 1; omega
    · show (Tr.insT l x).length ≤ _
      rw [Tr.insT_len]
      have := Tr.othersT_le l x.pf
      omega
  · exact Nat.zero_le _
theorem delT_le (l : List Tr.Rt) (p : Addr.Pf) : (Tr.delT l p).1.length ≤ l.length := by
  unfold Tr.delT
  split
  · exact Tr.othersT_le l p
  · exact Nat.zero_le _
theorem putL_le (l : List Lk.Lk) (x : Lk.Lk) : (Lk.putL l x).1.length ≤ l.length + 1 := by
  unfold Lk.putL
  have key : ∀ t : List Lk.Lk, (Lk.aheadL t x.iface).length + (Lk.behindL t x.iface).length ≤ t.length := by
    intro t
    unfold Lk.aheadL Lk.behindL
    induction t with
    | nil => exact Nat.le_refl _
    | cons y t ih =>
      rcases Int.lt_trichotomy y.iface x.iface with g | g | g
      · rw [List.filter_cons_of_pos (by simpa using g), List.filter_cons_of_neg (by simp; omega)]; simp only [List.length_cons]; omega
      · rw [List.filter_cons_of_neg (by simp; omega), List.filter_cons_of_neg (by simp; omega)]; simp only [List.length_cons]; omega
      · rw [List.filter_cons_of_neg (by simp; omega), List.filter_cons_of_pos (by simpa using g)]; simp only [List.length_cons]; omega
  split
  · split
    · show (Lk.others l x.iface).length ≤ _
      have := Lk.others_le l x.iface
      omega
    · show (Lk.aheadL l x.iface ++ ([x] ++ Lk.behindL l x.iface)).length ≤ _
      simp only [List.length_append, List.length_cons, List.length_nil]
      have := key l
      omega
  · exact Nat.zero_le _
theorem delL_le (l : List Lk.Lk) (i : Int) : (Lk.delL l i).1.length ≤ l.length := by
  unfold Lk.delL
  split
  · exact Lk.others_le l i
  · exact Nat.zero_le _
theorem many_apply (R : Ro) (e : Ev) : manyR (applyRo R e).1 ≤ manyR R + 1 := by
  unfold applyRo
  split
  · split
    · unfold takeRo manyR
      have h1 := putT_le R.rts ⟨e.pf, e.act⟩
      have h2 := delT_le R.rts e.pf
      have h3 := putL_le R.lks ⟨e.iface, e.peer⟩
      have h4 := delL_le R.lks e.iface
      (repeat' split) <;> simp only [List.length_nil] <;> omega
    · show manyR R ≤ _; omega
  · show manyR zeroRo ≤ _
    exact Nat.zero_le _
theorem size_put (L : List Ro) (r : Int) (Q : Ro) (hQ : manyR Q ≤ manyR (wasN L r) + 1) : sizeN (putN L r Q) ≤ sizeN L + 1 := by
  have e0 : sizeN L = sizeN (L.take (posN L r)) + sizeN (L.drop (posN L r)) := by rw [← sizeN_app, List.take_append_drop]
  unfold putN
  rw [sizeN_app, sizeN_app]
  cases hi : isN L r with
  | false =>
    have hw : wasN L r = (makeRo r).1 := by unfold wasN; rw [hi]; rfl
    have hm : manyR (makeRo r).1 = 0 := by unfold makeRo; split <;> rfl
    rw [hw, hm] at hQ
    simp only [Bool.false_eq_true, if_false, sizeN]
    omega
  | true =>
    have hlt : posN L r < L.length := by
      unfold isN at hi
      cases hg : L[posN L r]? with
      | none => rw [hg] at hi; cases hi
      | some x => exact (List.getElem?_eq_some_iff.1 hg).1
    have hw : wasN L r = L[posN L r] := by unfold wasN; rw [hi, if_pos rfl, List.getElem?_eq_getElem hlt]; rfl
    have hd : L.drop (posN L r) = L[posN L r] :: L.drop (posN L r + 1) := List.drop_eq_getElem_cons hlt
    rw [hw] at hQ
    rw [hd] at e0
    simp only [if_true, sizeN] at e0 ⊢
    omega
def roF : Ro → List Ev → Ro
  | R, [] => R
  | R, e :: l => roF (applyRo R e).1 l
def okF : Ro → List Ev → Prop
  | _, [] => True
  | R, e :: l => (applyRo R e).2 = 0 ∧ okF (applyRo R e).1 l
theorem roF_snoc (l : List Ev) : ∀ (R : Ro) (e : Ev), roF R (l ++ [e]) = (applyRo (roF R l) e).1 := by
  induction l with
  | nil => intro R e; rfl
  | cons x l ih => intro R e; exact ih _ e
theorem okF_app (a : List Ev) : ∀ (R : Ro) (b : List Ev), okF R (a ++ b) ↔ okF R a ∧ okF (roF R a) b := by
  induction a with
  | nil => intro R b; simp [okF, roF]
  | cons x a ih =>
    intro R b
    show (applyRo R x).2 = 0 ∧ okF (applyRo R x).1 (a ++ b) ↔ ((applyRo R x).2 = 0 ∧ okF (applyRo R x).1 a) ∧ okF (roF (applyRo R x).1 a) b
    rw [ih, and_assoc]
def seatF (l : List Ev) : Option St := match l.getLast? with
  | none => none
  | some e => some ⟨e.router, e.seq, e.time, decide (e.kind ≠ 2)⟩
theorem seatF_snoc (l : List Ev) (e : Ev) : seatF (l ++ [e]) = some ⟨e.router, e.seq, e.time, decide (e.kind ≠ 2)⟩ := by
  unfold seatF
  rw [List.getLast?_append]
  rfl
theorem seatF_some {l : List Ev} : (seatF l).isSome = true ↔ l ≠ [] := by
  unfold seatF
  cases hl : l.getLast? with
  | none => simp [List.getLast?_eq_none_iff.1 hl]
  | some e =>
    simp only [Option.isSome_some, true_iff]
    intro h
    rw [h] at hl
    cases hl
theorem isN_iff {L : List Ro} (hu : UpR L) (r : Int) : isN L r = true ↔ ∃ R ∈ L, R.id = r := by
  obtain ⟨_, _, p3, p4⟩ := pos_parts L r hu
  constructor
  · intro h; exact ⟨_, (p3 h).1, (p3 h).2⟩
  · rintro ⟨R, hR, he⟩
    cases hi : isN L r with
    | true => rfl
    | false => exact absurd he (p4 hi R hR)
theorem was_mem {L : List Ro} (hu : UpR L) {R : Ro} (hR : R ∈ L) : wasN L R.id = R := by
  obtain ⟨_, _, p3, p4⟩ := pos_parts L R.id hu
  have hi := (isN_iff hu R.id).2 ⟨R, hR, rfl⟩
  exact up_oneR hu (p3 hi).1 hR (p3 hi).2
theorem mem_was {L : List Ro} (hu : UpR L) {R : Ro} : R ∈ L ↔ isN L R.id = true ∧ wasN L R.id = R := by
  obtain ⟨_, _, p3, p4⟩ := pos_parts L R.id hu
  constructor
  · intro h; exact ⟨(isN_iff hu R.id).2 ⟨R, h, rfl⟩, was_mem hu h⟩
  · rintro ⟨h1, h2⟩; rw [← h2]; exact (p3 h1).1
/-- a net that took just these events -/
structure InvT (n : NetT) (xs : List Ev) : Prop where
  ok : okN n = true
  inv : Ord.Inv n.seats xs
  seat : ∀ r, findL n.seats r = seatF (ofR r xs)
  has : ∀ r, isN n.ros r = true ↔ ofR r xs ≠ []
  was : ∀ r, okId r = true → wasN n.ros r = roF (makeRo r).1 (ofR r xs)
  apps : ∀ r, okId r = true → okF (makeRo r).1 (ofR r xs)
  size : sizeN n.ros ≤ xs.length
  evs : ∀ e ∈ xs, okE e = true
theorem inv_zero : InvT zeroN [] := by
  refine ⟨by decide, Ord.inv_nil, fun r => rfl, fun r => ?_, fun r _ => rfl, fun r _ => trivial, Nat.le_refl _, fun e he => by cases he⟩
  constructor
  · intro h; cases h
  · intro h; exact absurd rfl h
theorem inv_take {n : NetT} {xs : List Ev} {e : Ev} {h : Int} (hi : InvT n xs) (hz : (takeN n e h).2 = 0) : InvT (takeN n e h).1 (xs ++ [e]) := by
  obtain ⟨t1, t2, t3, t4⟩ := take_zero hz
  have hok := take_right hi.ok hz
  have hros : (takeN n e h).1.ros = putN n.ros e.router (applyRo (wasN n.ros e.router) e).1 := by rw [t4]
  have hse : (takeN n e h).1.seats = (nextL n.seats e h).1 := by rw [t4]
  obtain ⟨q1, q2, q3⟩ := take_q hi.ok hz
  have hoe := (next_okE t1).2.1
  have hid := ev_id hoe
  have hmem : ∀ R : Ro, R ∈ (takeN n e h).1.ros ↔ R = (applyRo (wasN n.ros e.router) e).1 ∨ (R ∈ n.ros ∧ R.id ≠ e.router) := fun R => by rw [hros]; exact mem_put hi.ok
  have hup := ros_up hok
  have hup0 := ros_up hi.ok
  refine ⟨hok, by rw [hse]; exact (Ord.inv_step hi.inv t1).1, fun r => ?_, fun r => ?_, fun r hr => ?_, fun r hr => ?_, ?_, fun x hx => ?_⟩
  · rw [hse, next_is t1, Ord.find_seated ((Ord.okL_iff _).1 (okN_parts hi.ok).1).2.2, of_snoc]
    by_cases hr : r = e.router
    · rw [if_pos hr, if_pos hr.symm, seatF_snoc]
    · rw [if_neg hr, if_neg (fun c => hr c.symm), hi.seat]
  · rw [isN_iff hup, of_snoc]
    by_cases hr : e.router = r
    · rw [if_pos hr]
      refine ⟨fun _ => by simp, fun _ => ⟨_, (hmem _).2 (.inl rfl), by rw [q2, hr]⟩⟩
    · rw [if_neg hr, ← hi.has, isN_iff hup0]
      constructor
      · rintro ⟨R, hR, hRi⟩
        rcases (hmem R).1 hR with g | g
        · rw [g, q2] at hRi; exact absurd hRi hr
        · exact ⟨R, g.1, hRi⟩
      · rintro ⟨R, hR, hRi⟩
        exact ⟨R, (hmem R).2 (.inr ⟨hR, by rw [hRi]; exact fun c => hr c.symm⟩), hRi⟩
  · rw [of_snoc]
    by_cases hr2 : e.router = r
    · rw [if_pos hr2, roF_snoc, ← hi.was r hr, ← hr2]
      have hQ : (applyRo (wasN n.ros e.router) e).1 ∈ (takeN n e h).1.ros := (hmem _).2 (.inl rfl)
      have := was_mem hup hQ
      rw [q2] at this
      exact this
    · rw [if_neg hr2, ← hi.was r hr]
      refine was_eq hup hup0 (fun R hR => ?_)
      rw [hmem]
      constructor
      · rintro (g | g)
        · rw [g, q2] at hR; exact absurd hR hr2
        · exact g.1
      · intro g; exact .inr ⟨g, by rw [hR]; exact fun c => hr2 c.symm⟩
  · rw [of_snoc]
    by_cases hr2 : e.router = r
    · rw [if_pos hr2, okF_app]
      refine ⟨hi.apps r hr, ?_, trivial⟩
      rw [← hi.was r hr, ← hr2]
      exact t2
    · rw [if_neg hr2]; exact hi.apps r hr
  · rw [hros, List.length_append]
    have := size_put n.ros e.router _ (many_apply (wasN n.ros e.router) e)
    have := hi.size
    simp only [List.length_cons, List.length_nil]
    omega
  · rcases List.mem_append.1 hx with hx | hx
    · exact hi.evs x hx
    · rw [List.mem_singleton] at hx; subst hx; exact hoe
theorem inv_uniq {n m : NetT} {xs ys : List Ev} (hn : InvT n xs) (hm : InvT m ys) (h : ∀ r, ofR r xs = ofR r ys) : n = m := by
  have key : ∀ {n m : NetT} {xs ys : List Ev}, InvT n xs → InvT m ys → (∀ r, ofR r xs = ofR r ys) → (∀ z, z ∈ n.seats → z ∈ m.seats) ∧ ∀ z, z ∈ n.ros → z ∈ m.ros := by
    intro n m xs ys hn hm h
    refine ⟨fun z hz => ?_, fun z hz => ?_⟩
    · have h1 := Ord.find_mem ((Ord.okL_iff _).1 (okN_parts hn.ok).1).2.2 hz
      rw [hn.seat, h, ← hm.seat] at h1
      exact (Ord.find_has h1).1
    · have hid : okId z.id = true := (okRo_parts (ros_ok hn.ok z hz)).1
      obtain ⟨h1, h2⟩ := (mem_was (ros_up hn.ok)).1 hz
      refine (mem_was (ros_up hm.ok)).2 ⟨(hm.has _).2 (by rw [← h]; exact (hn.has _).1 h1), ?_⟩
      rw [hm.was _ hid, ← h, ← hn.was _ hid, h2]
  have a := key hn hm h
  have b := key hm hn (fun r => (h r).symm)
  have hS : n.seats = m.seats := ext_key (fun s : St => s.router) _ _ ((Ord.okL_iff _).1 (okN_parts hn.ok).1).2.2 ((Ord.okL_iff _).1 (okN_parts hm.ok).1).2.2 (fun z => ⟨a.1 z, b.1 z⟩)
  have hR : n.ros = m.ros := ext_key (fun R : Ro => R.id) _ _ (ros_up hn.ok) (ros_up hm.ok) (fun z => ⟨a.2 z, b.2 z⟩)
  cases n
  cases m
  simp only at hS hR
  rw [hS, hR]
theorem mis_eight {l : List St} {e : Ev} {h : Int} (h8 : misL l e h = 8) : isIn l e.router = false ∧ l.length = 64 := by
  unfold misL at h8
  by_cases c1 : isIn l e.router = false ∧ e.kind ≠ 1
  · rw [if_pos c1] at h8; exact absurd h8 (by decide)
  rw [if_neg c1] at h8
  by_cases c2 : e.seq ≠ (seatOf l e.router).seq + 1
  · rw [if_pos c2] at h8; exact absurd h8 (by decide)
  rw [if_neg c2] at h8
  by_cases c3 : e.time < (seatOf l e.router).time ∨ e.time ≤ h
  · rw [if_pos c3] at h8; exact absurd h8 (by decide)
  rw [if_neg c3] at h8
  by_cases c4 : decide (e.kind = 1) = (seatOf l e.router).up
  · rw [if_pos c4] at h8; exact absurd h8 (by decide)
  rw [if_neg c4] at h8
  by_cases c5 : isIn l e.router = false ∧ l.length = 64
  · exact c5
  · rw [if_neg c5] at h8; exact absurd h8 (by decide)
theorem next_eight {l : List St} {e : Ev} {h : Int} (h8 : (nextL l e h).2 = 8) : misL l e h = 8 := by
  unfold nextL at h8
  by_cases ha : askL l e h = 0
  · rw [if_pos ha] at h8
    by_cases hm : misL l e h = 0
    · rw [if_pos hm] at h8; exact absurd h8 (show ¬ (0 : Int) = 8 by decide)
    · rw [if_neg hm] at h8; exact h8
  · rw [if_neg ha] at h8
    exfalso
    revert h8
    show askL l e h = 8 → False
    unfold askL
    (repeat' split) <;> decide
theorem inv_takes {n m : NetT} {xs ys : List Ev} {e : Ev} {h : Int} (hn : InvT n xs) (hm : InvT m ys) (ho : ofR e.router xs = ofR e.router ys) (hz : (takeN n e h).2 = 0) (hsz : ys.length + 1 ≤ 1024) (h64 : isIn m.seats e.router = false → m.seats.length < 64) : (takeN m e h).2 = 0 := by
  obtain ⟨t1, t2, t3, t4⟩ := take_zero hz
  have hid := ev_id (next_okE t1).2.1
  have h1 : isIn n.seats e.router = isIn m.seats e.router := by unfold isIn; rw [hn.seat, hm.seat, ho]
  have h2 : seatOf n.seats e.router = seatOf m.seats e.router := by unfold seatOf; rw [hn.seat, hm.seat, ho]
  have hw : wasN m.ros e.router = wasN n.ros e.router := by rw [hm.was _ hid, hn.was _ hid, ho]
  have h3 : ∀ R : Ro, R.id = e.router → (R ∈ m.ros ↔ R ∈ n.ros) := fun R hR => by
    rw [mem_was (ros_up hm.ok), mem_was (ros_up hn.ok), hR, hw, hm.has, hn.has, ho]
  refine (take_like hm.ok hn.ok h1 h2 h3 hz ?_).1
  intro h8
  have hnx : (nextL m.seats e h).2 = 0 := by
    rcases next_apart (okN_parts hm.ok).1 h1 h2 t1 with g | g
    · exact g
    · obtain ⟨g1, g2⟩ := mis_eight (next_eight g)
      have := h64 g1
      omega
  unfold takeN at h8
  rw [if_pos hnx, hw, if_pos t2] at h8
  have hs := size_put m.ros e.router _ (many_apply (wasN m.ros e.router) e)
  rw [hw] at hs
  have := hm.size
  rw [if_neg (by omega)] at h8
  exact absurd h8 (show ¬ (0 : Int) = 8 by decide)
theorem in_iff {n : NetT} {xs : List Ev} (hn : InvT n xs) (r : Int) : isIn n.seats r = true ↔ ofR r xs ≠ [] := by
  unfold isIn
  rw [hn.seat]
  exact seatF_some
theorem mem_routers {n : NetT} {xs : List Ev} (hn : InvT n xs) (r : Int) : r ∈ n.seats.map (fun s => s.router) ↔ ofR r xs ≠ [] := by
  rw [← in_iff hn]
  unfold isIn
  rw [List.mem_map]
  constructor
  · rintro ⟨s, hs, rfl⟩
    rw [Ord.find_mem ((Ord.okL_iff _).1 (okN_parts hn.ok).1).2.2 hs]
    rfl
  · intro h
    cases hf : findL n.seats r with
    | none => rw [hf] at h; cases h
    | some s => exact ⟨s, (Ord.find_has hf).1, (Ord.find_has hf).2⟩
theorem routers_up {n : NetT} {xs : List Ev} (hn : InvT n xs) : (n.seats.map (fun s => s.router)).Pairwise (fun a b => a < b) := by
  rw [List.pairwise_map]
  exact ((Ord.okL_iff _).1 (okN_parts hn.ok).1).2.2
theorem seats_lt {m N : NetT} {ys es : List Ev} (hm : InvT m ys) (hN : InvT N es) (hsub : ∀ r, ofR r ys ≠ [] → ofR r es ≠ []) {r : Int} (hr : ofR r es ≠ []) (hnot : isIn m.seats r = false) : m.seats.length < N.seats.length := by
  have e0 : m.seats.map (fun s => s.router) = (N.seats.map (fun s => s.router)).filter (fun x => isIn m.seats x) := by
    refine ext_key (fun x : Int => x) _ _ (routers_up hm) ((routers_up hN).filter _) (fun z => ?_)
    rw [List.mem_filter, mem_routers hm, mem_routers hN, in_iff hm]
    exact ⟨fun h => ⟨hsub z h, h⟩, fun h => h.2⟩
  have h1 : ((N.seats.map (fun s => s.router)).filter (fun x => isIn m.seats x)).length < (N.seats.map (fun s => s.router)).length := by
    rw [List.length_filter_lt_length_iff_exists]
    exact ⟨r, (mem_routers hN r).2 hr, by rw [hnot]; decide⟩
  rw [← e0, List.length_map, List.length_map] at h1
  exact h1
/-- what all events came to, and that each was taken where it came -/
theorem inv_all (h : Int) : ∀ (zs ys : List Ev) (n : NetT) (k : Nat), InvT n ys → (allF h n zs k).2.2 = 0 → InvT (allF h n zs k).1 (ys ++ zs) ∧ (allF h n zs k).2.1 = k + zs.length ∧ ∀ xs e t, zs = xs ++ e :: t → ∃ m, InvT m (ys ++ xs) ∧ (takeN m e h).2 = 0 := by
  intro zs
  induction zs with
  | nil =>
    intro ys n k hi _
    refine ⟨by rw [List.append_nil]; exact hi, rfl, fun xs e t he => ?_⟩
    have := congrArg List.length he
    simp at this
  | cons z zs ih =>
    intro ys n k hi hz
    by_cases h0 : (takeN n z h).2 = 0
    · have e0 : allF h n (z :: zs) k = allF h (takeN n z h).1 zs (k + 1) := by
        show (if (takeN n z h).2 = 0 then allF h (takeN n z h).1 zs (k + 1) else (n, k, (takeN n z h).2)) = _
        rw [if_pos h0]
      rw [e0] at hz ⊢
      obtain ⟨i1, i2, i3⟩ := ih (ys ++ [z]) (takeN n z h).1 (k + 1) (inv_take hi h0) hz
      refine ⟨by rw [List.append_assoc] at i1; exact i1, by rw [i2, List.length_cons]; omega, fun xs e t he => ?_⟩
      cases xs with
      | nil =>
        simp only [List.nil_append, List.cons.injEq] at he
        refine ⟨n, by rw [List.append_nil]; exact hi, by rw [← he.1]; exact h0⟩
      | cons x xs =>
        simp only [List.cons_append, List.cons.injEq] at he
        obtain ⟨m, hm1, hm2⟩ := i3 xs e t he.2
        rw [he.1, List.append_assoc] at hm1
        exact ⟨m, hm1, hm2⟩
    · exfalso
      have e0 : allF h n (z :: zs) k = (n, k, (takeN n z h).2) := by
        show (if (takeN n z h).2 = 0 then allF h (takeN n z h).1 zs (k + 1) else (n, k, (takeN n z h).2)) = _
        rw [if_neg h0]
      rw [e0] at hz
      exact h0 hz
theorem filter_split {α : Type} (p : α → Bool) : ∀ (l a : List α) (e : α) (b : List α), l.filter p = a ++ e :: b → ∃ xs t, l = xs ++ e :: t ∧ xs.filter p = a := by
  intro l
  induction l with
  | nil =>
    intro a e b h
    have := congrArg List.length h
    simp at this
  | cons x l ih =>
    intro a e b h
    cases hp : p x with
    | false =>
      rw [List.filter_cons_of_neg (by rw [hp]; decide)] at h
      obtain ⟨xs, t, h1, h2⟩ := ih a e b h
      exact ⟨x :: xs, t, by rw [h1]; rfl, by rw [List.filter_cons_of_neg (by rw [hp]; decide)]; exact h2⟩
    | true =>
      rw [List.filter_cons_of_pos hp] at h
      cases a with
      | nil =>
        simp only [List.nil_append, List.cons.injEq] at h
        exact ⟨[], l, by rw [h.1]; rfl, rfl⟩
      | cons y a =>
        simp only [List.cons_append, List.cons.injEq] at h
        obtain ⟨xs, t, h1, h2⟩ := ih a e b h.2
        exact ⟨x :: xs, t, by rw [h1]; rfl, by rw [List.filter_cons_of_pos hp, h2, h.1]⟩
/-- one router's events behind the other's -/
def sortedF (S : List St) (es : List Ev) : List Ev := S.flatMap (fun s => ofR s.router es)
theorem of_of (r s : Int) (es : List Ev) : ofR r (ofR s es) = if s = r then ofR r es else [] := by
  unfold ofR
  rw [List.filter_filter]
  by_cases h : s = r
  · subst h
    rw [if_pos rfl]
    congr 1
    funext e
    simp
  · rw [if_neg h, List.filter_eq_nil_iff]
    intro e _
    simp only [Bool.and_eq_true, decide_eq_true_eq]
    omega
theorem of_sorted (r : Int) (es : List Ev) : ∀ S : List St, S.Pairwise (fun a b => a.router < b.router) → (r ∉ S.map (fun s => s.router) → ofR r (sortedF S es) = []) ∧ (r ∈ S.map (fun s => s.router) → ofR r (sortedF S es) = ofR r es) := by
  intro S
  induction S with
  | nil => intro _; exact ⟨fun _ => rfl, fun h => by cases h⟩
  | cons s S ih =>
    intro hu
    have hp := List.pairwise_cons.1 hu
    obtain ⟨i1, i2⟩ := ih hp.2
    have e0 : ofR r (sortedF (s :: S) es) = ofR r (ofR s.router es) ++ ofR r (sortedF S es) := by
      show (ofR s.router es ++ sortedF S es).filter _ = _
      rw [List.filter_append]
      rfl
    rw [e0, of_of]
    refine ⟨fun h => ?_, fun h => ?_⟩
    · simp only [List.map_cons, List.mem_cons, not_or] at h
      rw [if_neg (fun c => h.1 c.symm), i1 h.2]
      rfl
    · by_cases hs : s.router = r
      · rw [if_pos hs, i1 (fun hc => by
          obtain ⟨t, ht, he⟩ := List.mem_map.1 hc
          have := hp.1 t ht
          omega), List.append_nil]
      · rw [if_neg hs, List.nil_append]
        refine i2 ?_
        simp only [List.map_cons, List.mem_cons] at h
        rcases h with h | h
        · exact absurd h.symm hs
        · exact h
theorem sorted_len (e : Ev) (es : List Ev) : ∀ S : List St, (sortedF S (e :: es)).length = (sortedF S es).length + (S.filter (fun s => decide (s.router = e.router))).length := by
  intro S
  induction S with
  | nil => rfl
  | cons s S ih =>
    show (ofR s.router (e :: es) ++ sortedF S (e :: es)).length = (ofR s.router es ++ sortedF S es).length + _
    rw [List.length_append, List.length_append, ih]
    by_cases h : s.router = e.router
    · rw [List.filter_cons_of_pos (by simpa using h)]
      have : ofR s.router (e :: es) = e :: ofR s.router es := by unfold ofR; rw [List.filter_cons_of_pos (by simpa using h.symm)]
      rw [this]
      simp only [List.length_cons]
      omega
    · rw [List.filter_cons_of_neg (by simpa using h)]
      have : ofR s.router (e :: es) = ofR s.router es := by unfold ofR; rw [List.filter_cons_of_neg (by simpa using fun c => h c.symm)]
      rw [this]
      omega
theorem filter_one (r : Int) : ∀ S : List St, S.Pairwise (fun a b => a.router < b.router) → r ∈ S.map (fun s => s.router) → (S.filter (fun s => decide (s.router = r))).length = 1 := by
  intro S
  induction S with
  | nil => intro _ h; cases h
  | cons s S ih =>
    intro hu h
    have hp := List.pairwise_cons.1 hu
    by_cases hs : s.router = r
    · rw [List.filter_cons_of_pos (by simpa using hs), List.length_cons, List.filter_eq_nil_iff.2 (fun t ht => by have := hp.1 t ht; simp; omega)]
      rfl
    · rw [List.filter_cons_of_neg (by simpa using hs)]
      simp only [List.map_cons, List.mem_cons] at h
      rcases h with h | h
      · exact absurd h.symm hs
      · exact ih hp.2 h
theorem sorted_nil : ∀ S : List St, sortedF S [] = [] := by
  intro S
  induction S with
  | nil => rfl
  | cons s S ih =>
    show ofR s.router [] ++ sortedF S [] = []
    rw [ih]
    rfl
theorem sorted_all (S : List St) (hu : S.Pairwise (fun a b => a.router < b.router)) : ∀ es : List Ev, (∀ e ∈ es, e.router ∈ S.map (fun s => s.router)) → (sortedF S es).length = es.length := by
  intro es
  induction es with
  | nil =>
    intro _
    rw [sorted_nil]
  | cons e es ih =>
    intro h
    rw [sorted_len, ih (fun x hx => h x (List.mem_cons_of_mem _ hx)), filter_one e.router S hu (h e List.mem_cons_self)]
    rfl
theorem take_sorted {es : List Ev} {N : NetT} {h : Int} (hN : InvT N es) (hall : ∀ xs e t, es = xs ++ e :: t → ∃ m, InvT m xs ∧ (takeN m e h).2 = 0) (hlen : es.length ≤ 100) (srt : List Ev) (hsl : srt.length = es.length) (hs : ∀ r, ofR r srt = ofR r es) : ∀ (zs ys : List Ev) (m : NetT) (k : Nat), ys ++ zs = srt → InvT m ys → allF h m zs k = (N, k + zs.length, 0) := by
  intro zs
  induction zs with
  | nil =>
    intro ys m k he hm
    rw [List.append_nil] at he
    subst he
    rw [inv_uniq hm hN hs]
    rfl
  | cons z zs ih =>
    intro ys m k he hm
    have hof : ofR z.router es = ofR z.router ys ++ z :: ofR z.router zs := by
      rw [← hs, ← he]
      unfold ofR
      rw [List.filter_append, List.filter_cons_of_pos (by simp)]
    obtain ⟨xs, t, e1, e2⟩ := filter_split _ es _ z _ hof
    obtain ⟨n, hn1, hn2⟩ := hall xs z t e1
    have hl := congrArg List.length he
    simp only [List.length_append, List.length_cons] at hl
    have hz : (takeN m z h).2 = 0 := by
      refine inv_takes hn1 hm e2 hn2 (by omega) (fun hnot => ?_)
      have := seats_lt hm hN (fun r hr => by
        rw [← hs, ← he]
        unfold ofR at hr ⊢
        rw [List.filter_append]
        intro hc
        exact hr (List.append_eq_nil_iff.1 hc).1) (r := z.router) (by rw [hof]; simp) hnot
      have := ((Ord.okL_iff _).1 (okN_parts hN.ok).1).1
      omega
    show (if (takeN m z h).2 = 0 then allF h (takeN m z h).1 zs (k + 1) else (m, k, (takeN m z h).2)) = _
    rw [if_pos hz, ih (ys ++ [z]) (takeN m z h).1 (k + 1) (by rw [List.append_assoc]; exact he) (inv_take hm hz), List.length_cons]
    congr 2
    omega
/-- what TopTogether asks for -/
theorem together (h : Int) (es : List Ev) (hz : (allN zeroN es h).2.2 = 0) (hl : es.length ≤ 100) : InvT (allN zeroN es h).1 es ∧ (allN zeroN es h).2.1 = es.length ∧ allN zeroN (sortedF (allN zeroN es h).1.seats es) h = ((allN zeroN es h).1, es.length, 0) := by
  have e0 : ∀ l, allN zeroN l h = allF h zeroN l 0 := fun l => by unfold allN; rw [show okN zeroN = true by decide]; rfl
  rw [e0] at hz ⊢
  rw [e0]
  obtain ⟨h1, h2, h3⟩ := inv_all h es [] zeroN 0 inv_zero hz
  rw [List.nil_append] at h1
  rw [Nat.zero_add] at h2
  have hu := ((Ord.okL_iff _).1 (okN_parts h1.ok).1).2.2
  have hof : ∀ r, ofR r (sortedF (allF h zeroN es 0).1.seats es) = ofR r es := fun r => by
    obtain ⟨s1, s2⟩ := of_sorted r es _ hu
    by_cases hr : ofR r es = []
    · rw [hr]
      exact s1 (fun hc => (mem_routers h1 r).1 hc hr)
    · exact s2 ((mem_routers h1 r).2 hr)
  have hsl := sorted_all _ hu es (fun e he => (mem_routers h1 e.router).2 (by
    intro hc
    unfold ofR at hc
    rw [List.filter_eq_nil_iff] at hc
    exact hc e he (by simp)))
  refine ⟨h1, h2, ?_⟩
  have hk := take_sorted (h := h) h1 (fun xs e t he => by
    obtain ⟨m, hm1, hm2⟩ := h3 xs e t he
    exact ⟨m, hm1, hm2⟩) hl (sortedF (allF h zeroN es 0).1.seats es) hsl hof (sortedF (allF h zeroN es 0).1.seats es) [] zeroN 0 rfl inv_zero
  rw [hk, Nat.zero_add, hsl]
/-- a router's own events, one by one -/
theorem own_step {n : NetT} {es : List Ev} (hi : InvT n es) {r : Int} (hr : okId r = true) (k : Nat) (hk : k < es.length) :
    (es[k].router = r → (applyRo (roF (makeRo r).1 (ofR r (es.take k))) es[k]).2 = 0 ∧ (applyRo (roF (makeRo r).1 (ofR r (es.take k))) es[k]).1 = roF (makeRo r).1 (ofR r (es.take (k + 1))) ∧ ofR r (es.take (k + 1)) = ofR r (es.take k) ++ [es[k]]) ∧ (es[k].router ≠ r → ofR r (es.take (k + 1)) = ofR r (es.take k)) := by
  have e0 : es.take (k + 1) = es.take k ++ [es[k]] := List.take_succ_eq_append_getElem hk
  refine ⟨fun he => ?_, fun he => ?_⟩
  · have e1 : ofR r (es.take (k + 1)) = ofR r (es.take k) ++ [es[k]] := by rw [e0, of_snoc, if_pos he]
    refine ⟨?_, by rw [e1, roF_snoc], e1⟩
    have h1 := hi.apps r hr
    have h2 : ofR r es = ofR r (es.take k) ++ (es[k] :: ofR r (es.drop (k + 1))) := by
      have : es = es.take k ++ es[k] :: es.drop (k + 1) := by rw [← List.drop_eq_getElem_cons hk, List.take_append_drop]
      conv => lhs; rw [this]
      unfold ofR
      rw [List.filter_append, List.filter_cons_of_pos (by simpa using he)]
    rw [h2, okF_app] at h1
    exact h1.2.1
  · rw [e0, of_snoc, if_neg he]
theorem seat_own {n : NetT} {es : List Ev} (hi : InvT n es) {s : St} (hs : s ∈ n.seats) : okId s.router = true ∧ s.seq = (ofR s.router es).length ∧ findN n s.router = (roF (makeRo s.router).1 (ofR s.router es), 0) := by
  obtain ⟨a1, a2, a3⟩ := (Ord.okL_iff _).1 (okN_parts hi.ok).1
  have hid : okId s.router = true := by
    have := a2 s hs
    unfold Ord.okS at this
    simp only [Bool.and_eq_true, decide_eq_true_eq] at this
    exact (okId_iff _).2 ⟨this.1.1.1.1.1, this.1.1.1.1.2⟩
  have hf := Ord.find_mem a3 hs
  have hin : ofR s.router es ≠ [] := (mem_routers hi s.router).1 (List.mem_map.2 ⟨s, hs, rfl⟩)
  refine ⟨hid, ?_, ?_⟩
  · rcases hi.inv.seat s.router with ⟨g1, g2⟩ | ⟨t, g1, g2, g3, g4⟩
    · rw [hf] at g1; cases g1
    · rw [hf] at g1
      injection g1 with g1
      rw [g1]
      rw [g1] at g2
      exact g2
  · unfold findN
    rw [hi.ok, if_pos rfl, (hi.has _).2 hin, if_pos rfl, hi.was _ hid]
end Go.Proofs.Ytkjhnefbcnnjlaa.Nt
