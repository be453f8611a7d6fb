/- net.Apply. -/
import Derived.Test.YtkjhnefbcnnjlaaTv25
import Derived.Test.YtkjhnefbcnnjlaaTv17
import Derived.Test.YtkjhnefbcnnjlaaTv11
import Derived.Laws.ResultCell
set_option linter.unusedVariables false
namespace Go.Proofs.Ytkjhnefbcnnjlaa.Nt
open Go.RowKit
open Go.Proofs.Ytkjhnefbcnnjlaa.Lk (HasRow HasLks.keep hasRow_own)
open Go.Proofs.Ytkjhnefbcnnjlaa.Tr (HasRts.keep)
open Go.Proofs.Ytkjhnefbcnnjlaa.Msg (Ev FitE evV)
open Go.Proofs.Ytkjhnefbcnnjlaa.Fib
open Go.Proofs.Ytkjhnefbcnnjlaa.Ord (St HasSts HasSts.keep nextL)
open Go.Proofs.Ytkjhnefbcnnjlaa.Addr (RowAt)
theorem fit_was {n : NetT} (hf : FitN n) (hok : okN n = true) {r : Int} (hr : -9223372036854775808 ≤ r ∧ r ≤ 9223372036854775807) : FitRo (wasN n.ros r) := by
  obtain ⟨_, _, p3, _⟩ := pos_parts n.ros r (ros_up hok)
  cases hi : isN n.ros r with
  | true => exact hf.ros _ (p3 hi).1
  | false =>
    have : wasN n.ros r = (makeRo r).1 := by unfold wasN; rw [hi]; rfl
    rw [this]
    unfold makeRo zeroRo
    split
    · exact ⟨hr, (fun x hx => by cases hx), (fun x hx => by cases hx)⟩
    · exact ⟨by decide, (fun x hx => by cases hx), (fun x hx => by cases hx)⟩
theorem parted_r (L : List Ro) (gf : Nat) (so lo : Option Addr) (sn sc ln lc : Nat) (id : Int) (w : World) (hf : RowAt w gf [.slice so sn sc, .slice lo ln lc] 62) (hl : HasRos w (.slice lo ln lc) L) :
    Calls Try.prog 32 #[.pointer (some ⟨gf, 0, none⟩), .int .i64 id] w (PartR (L.take (posN L id)) (L.drop (if isN L id then posN L id + 1 else posN L id)) (wasN L id) w) := by
  obtain ⟨M, eM, _, c⟩ := parted_any L gf so lo sn sc ln lc id w hf hl
  refine c.mono ?_
  rintro e w' ⟨oa, na, ca, o1, n1, c1, o2, n2, c2, ob, nb, cb, e1, h1, h2, h3, h4⟩
  refine ⟨oa, na, ca, o1, n1, c1, o2, n2, c2, ob, nb, cb, e1, ⟨_, ?_, h1⟩, ⟨_, ?_, h2⟩, h3.1, h3.2, h4⟩
  · rw [← eM]; unfold rosOf; rw [List.map_take]
  · rw [← eM]; unfold rosOf; rw [List.map_drop]
theorem concat_r (A B : List Ro) (Q : Ro) (hA : A.length ≤ 1000) (hB : B.length ≤ 1000) (W : World) (b : Nat) (oa : Option Addr) (na ca : Nat) (ob : Option Addr) (nb cb : Nat) (oc : Option Addr) (nc cc : Nat) (hb : b < W.heap.size) (h0 : W.cell? ⟨b, 0, none⟩ = some (.slice oa na ca)) (h1 : W.cell? ⟨b, 1, none⟩ = some (.slice ob nb cb)) (h2 : W.cell? ⟨b, 2, none⟩ = some (.slice oc nc cc)) (r0 : HasRos W (.slice oa na ca) A) (r1 : HasRos W (.slice ob nb cb) [Q]) (r2 : HasRos W (.slice oc nc cc) B) :
    Calls Try.prog 33 #[.slice (some ⟨b, 0, none⟩) 3 3] W fun e w' => ∃ o n m, e = .returned (.slice o n m) ∧ HasRos w' (.slice o n m) (A ++ ([Q] ++ B)) ∧ Below W.heap.size W w' := by
  obtain ⟨Ma, ea, ha⟩ := r0
  obtain ⟨Mb, eb, hbb⟩ := r1
  obtain ⟨Mc, ec, hc⟩ := r2
  have la : Ma.length = A.length := by rw [← ea]; simp [rosOf]
  have lb : Mb.length = 1 := by have := congrArg List.length eb; simpa [rosOf] using this
  have lc : Mc.length = B.length := by rw [← ec]; simp [rosOf]
  obtain ⟨_, _, e1, _⟩ := Lk.HasRow.slice ha.1
  obtain ⟨_, _, e2, _⟩ := Lk.HasRow.slice hbb.1
  obtain ⟨_, _, e3, _⟩ := Lk.HasRow.slice hc.1
  injection e1 with _ e1 _
  injection e2 with _ e2 _
  injection e3 with _ e3 _
  refine (concat_any b Ma Mb Mc oa ob oc na nb nc ca cb cc W hb h0 h1 h2 e1 e2 e3 ha hbb hc (by omega) (by omega) (by omega)).mono ?_
  rintro e w' ⟨v, rfl, ho, hbl⟩
  have hh : HasRos w' v (A ++ ([Q] ++ B)) := by
    refine ⟨Ma ++ (Mb ++ Mc), ?_, hasRow_own ho, fun m hm => ?_⟩
    · rw [← ea, ← eb, ← ec]; unfold rosOf; rw [List.map_append, List.map_append]
    · simp only [List.mem_append] at hm
      rcases hm with hm | hm | hm
      · exact (ha.2 m hm).keep hbl
      · exact (hbb.2 m hm).keep hbl
      · exact (hc.2 m hm).keep hbl
  obtain ⟨o, c, rfl, _⟩ := HasRos.slice hh
  exact ⟨_, _, _, rfl, hh, hbl⟩
theorem take_any (n : NetT) (e : Ev) (h : Int) (gf : Nat) (so lo : Option Addr) (sn sc ln lc : Nat) (w : World) (rf : RowAt w gf [.slice so sn sc, .slice lo ln lc] 62) (hS : HasSts w (.slice so sn sc) n.seats) (hL : HasRos w (.slice lo ln lc) n.ros) (hok : okN n = true) (hf : FitN n) (he : FitE e) :
    Calls Try.prog 15 #[.pointer (some ⟨gf, 0, none⟩), evV e, .int .i64 h] w (FabIs gf (takeN n e h).1 (takeN n e h).2 w) := by
  obtain ⟨S, L⟩ := n
  simp only at hS hL
  have c1 : ∀ W, HasSts W (.slice so sn sc) S → Calls Try.prog 31 #[.slice so sn sc, evV e, .int .i64 h] W fun x w' => ∃ o n m, x = .returned (.tuple #[.slice o n m, .int .i64 (nextL S e h).2]) ∧ HasSts w' (.slice o n m) (nextL S e h).1 ∧ Below W.heap.size W w' := fun W hW => (Ord.next_any S _ e h W hW he).mono (fun x w' ⟨u, e1, ⟨e2, _⟩, e3⟩ => by
    obtain ⟨o, c, rfl, _⟩ := Ord.HasRow.slice e2
    exact ⟨_, _, _, e1, e2, e3⟩)
  have c2 := fun W (r : RowAt W gf [.slice so sn sc, .slice lo ln lc] 62) (hl : HasRos W (.slice lo ln lc) L) => parted_r L gf so lo sn sc ln lc e.router W r hl
  by_cases h1 : (nextL S e h).2 = 0
  · have hE := (next_okE h1).2.1
    rw [h1] at c1
    have hfw := fit_was hf hok he.router
    have c3 := fun W x y h1 h2 => Fib.apply_any (wasN L e.router) e x y W h1 h2 hfw he
    by_cases h2 : (applyRo (wasN L e.router) e).2 = 0
    · have hQ : okRo (applyRo (wasN L e.router) e).1 = true := by
        rcases apply_cases (wasN L e.router) e with g | g | g
        · exact g.2.2.2.2.2.1
        · rw [g.1] at h2; exact absurd h2 (by decide)
        · exact absurd h2 g.1
      rw [h2] at c3
      have hll := ros_len hok
      simp only at hll
      have c4 := concat_r (L.take (posN L e.router)) (L.drop (if isN L e.router then posN L e.router + 1 else posN L e.router)) (applyRo (wasN L e.router) e).1 (by rw [List.length_take]; omega) (by rw [List.length_drop]; omega)
      obtain ⟨q1, q2⟩ := put_ok hok (r := e.router) hQ
      have c5 := fun W v h => size_any (putN L e.router (applyRo (wasN L e.router) e).1) v W h (by simp only at q1; omega) (fun R hR => (okRo_many (q2 R hR)).1)
      by_cases h3 : 1024 < sizeN (putN L e.router (applyRo (wasN L e.router) e).1)
      · have et : takeN ⟨S, L⟩ e h = (⟨S, L⟩, 8) := by unfold takeN; simp only [if_pos h1, if_pos h2, if_pos h3]
        rw [et]
        exact take_full gf so lo sn sc ln lc _ _ _ _ _ _ _ _ _ _ _ _ h S (nextL S e h).1 L _ _ _ (wasN L e.router) (applyRo (wasN L e.router) e).1 0 0 _ w rf hS hL (by omega) c1 c2 c3 c4 c5
      · have et : takeN ⟨S, L⟩ e h = (⟨(nextL S e h).1, putN L e.router (applyRo (wasN L e.router) e).1⟩, 0) := by unfold takeN; simp only [if_pos h1, if_pos h2, if_neg h3]
        rw [et]
        exact take_ok gf so lo sn sc ln lc _ _ _ _ _ _ _ _ _ _ _ _ h S (nextL S e h).1 L _ _ _ (wasN L e.router) (applyRo (wasN L e.router) e).1 0 0 _ w rf hS hL (by omega) c1 c2 c3 c4 c5
    · have et : takeN ⟨S, L⟩ e h = (⟨S, L⟩, (applyRo (wasN L e.router) e).2) := by unfold takeN; simp only [if_pos h1, if_neg h2]
      rw [et]
      exact take_fib gf so lo sn sc ln lc _ _ _ _ _ _ _ _ _ _ _ _ h S (nextL S e h).1 L _ _ [] (wasN L e.router) (applyRo (wasN L e.router) e).1 0 _ 0 w rf hS hL h2 c1 c2 c3
  · have et : takeN ⟨S, L⟩ e h = (⟨S, L⟩, (nextL S e h).2) := by unfold takeN; simp only [if_neg h1]
    rw [et]
    exact take_seat gf so lo sn sc ln lc _ _ _ _ _ _ _ _ _ _ _ _ h S (nextL S e h).1 L [] [] [] zeroRo zeroRo _ 0 0 w rf hS hL h1 c1
theorem fit_next {l : List St} {e : Ev} {h : Int} (hf : ∀ s ∈ l, Ord.FitS s) (he : FitE e) : ∀ s ∈ (nextL l e h).1, Ord.FitS s := by
  intro s hs
  unfold nextL at hs
  split at hs
  · split at hs
    · unfold Ord.seatedL Ord.ahead Ord.behind at hs
      simp only [List.mem_append, List.mem_singleton, List.mem_filter] at hs
      rcases hs with hs | rfl | hs
      · exact hf s hs.1
      · exact ⟨he.router, he.seq, he.time⟩
      · exact hf s hs.1
    · exact hf s hs
  · cases hs
theorem fit_take {n : NetT} {e : Ev} {h : Int} (hf : FitN n) (hok : okN n = true) (he : FitE e) : FitN (takeN n e h).1 := by
  unfold takeN
  split
  · split
    · split
      · exact hf
      · refine ⟨fit_next hf.seats he, fun R hR => ?_⟩
        simp only at hR
        rw [put_parts hok] at hR
        simp only [List.mem_append, List.mem_singleton, List.mem_filter] at hR
        rcases hR with hR | rfl | hR
        · exact hf.ros _ hR.1
        · exact fit_apply (fit_was hf hok he.router) he
        · exact hf.ros _ hR.1
    · exact hf
  · exact hf
end Go.Proofs.Ytkjhnefbcnnjlaa.Nt
namespace Go.Proofs.Ytkjhnefbcnnjlaa.Ord
open Go.RowKit
open Go.Proofs.Ytkjhnefbcnnjlaa.Msg (Ev evC)
open Go.Proofs.Ytkjhnefbcnnjlaa.Addr (hiN loN)
def evCs (l : List Ev) : List Value := l.flatMap evC
/-- rows of events -/
def HasEvs (W : World) (v : Value) (l : List Ev) : Prop := HasRow W v 12 l.length (evCs l)
theorem HasEvs.keep {W W' : World} {v : Value} {l : List Ev} (h : HasEvs W v l) (hb : Below W.heap.size W W') : HasEvs W' v l := HasRow.keep h hb
theorem evCs_at (l : List Ev) : ∀ j (h : j < l.length), (evCs l)[12 * j]? = some (.int .u8 (l[j].kind : Int)) ∧ (evCs l)[12 * j + 1]? = some (.int .i64 l[j].router) ∧ (evCs l)[12 * j + 2]? = some (.int .u64 (l[j].seq : Int)) ∧ (evCs l)[12 * j + 3]? = some (.int .i64 l[j].time) ∧ (evCs l)[12 * j + 4]? = some (.bool l[j].pf.six) ∧ (evCs l)[12 * j + 5]? = some (.int .u64 (hiN l[j].pf.n : Int)) ∧ (evCs l)[12 * j + 6]? = some (.int .u64 (loN l[j].pf.n : Int)) ∧ (evCs l)[12 * j + 7]? = some (.int .i64 l[j].pf.len) ∧ (evCs l)[12 * j + 8]? = some (.int .u8 (l[j].act.k : Int)) ∧ (evCs l)[12 * j + 9]? = some (.int .i64 l[j].act.i) ∧ (evCs l)[12 * j + 10]? = some (.int .i64 l[j].iface) ∧ (evCs l)[12 * j + 11]? = some (.int .i64 l[j].peer) := by
  induction l with
  | nil => intro j h; simp at h
  | cons p ps ih =>
    intro j h
    cases j with
    | zero => exact ⟨rfl, rfl, rfl, rfl, rfl, rfl, rfl, rfl, rfl, rfl, rfl, rfl⟩
    | succ j =>
      have := ih j (by simpa using h)
      rw [show evCs (p :: ps) = .int .u8 (p.kind : Int) :: .int .i64 p.router :: .int .u64 (p.seq : Int) :: .int .i64 p.time :: .bool p.pf.six :: .int .u64 (hiN p.pf.n : Int) :: .int .u64 (loN p.pf.n : Int) :: .int .i64 p.pf.len :: .int .u8 (p.act.k : Int) :: .int .i64 p.act.i :: .int .i64 p.iface :: .int .i64 p.peer :: evCs ps from rfl, show 12 * (j + 1) = 12 * j + 1 + 1 + 1 + 1 + 1 + 1 + 1 + 1 + 1 + 1 + 1 + 1 by omega]
      simp only [List.getElem?_cons_succ, List.getElem_cons_succ]
      exact this
theorem HasEvs.cell {W : World} {o : Option Addr} {m cap : Nat} {l : List Ev} (h : HasEvs W (.slice o m cap) l) (j : Nat) (hj : j < l.length) : ∃ b i, o = some ⟨b, i, none⟩ ∧ b < W.heap.size ∧ W.cell? ⟨b, i + j * 12, none⟩ = some (.int .u8 (l[j].kind : Int)) ∧ W.cell? ⟨b, i + j * 12 + 1, none⟩ = some (.int .i64 l[j].router) ∧ W.cell? ⟨b, i + j * 12 + 2, none⟩ = some (.int .u64 (l[j].seq : Int)) ∧ W.cell? ⟨b, i + j * 12 + 3, none⟩ = some (.int .i64 l[j].time) ∧ W.cell? ⟨b, i + j * 12 + 4, none⟩ = some (.bool l[j].pf.six) ∧ W.cell? ⟨b, i + j * 12 + 5, none⟩ = some (.int .u64 (hiN l[j].pf.n : Int)) ∧ W.cell? ⟨b, i + j * 12 + 6, none⟩ = some (.int .u64 (loN l[j].pf.n : Int)) ∧ W.cell? ⟨b, i + j * 12 + 7, none⟩ = some (.int .i64 l[j].pf.len) ∧ W.cell? ⟨b, i + j * 12 + 8, none⟩ = some (.int .u8 (l[j].act.k : Int)) ∧ W.cell? ⟨b, i + j * 12 + 9, none⟩ = some (.int .i64 l[j].act.i) ∧ W.cell? ⟨b, i + j * 12 + 10, none⟩ = some (.int .i64 l[j].iface) ∧ W.cell? ⟨b, i + j * 12 + 11, none⟩ = some (.int .i64 l[j].peer) := by
  obtain ⟨_, b, i, e, hb, hc⟩ := HasRow.at h (by omega)
  obtain ⟨h0, h1, h2, h3, h4, h5, h6, h7, h8, h9, h10, h11⟩ := evCs_at l j hj
  refine ⟨b, i, e, hb, ?_, ?_, ?_, ?_, ?_, ?_, ?_, ?_, ?_, ?_, ?_, ?_⟩
  · rw [hc (j * 12) (by omega), Nat.mul_comm]; exact h0
  · rw [Nat.add_assoc, hc (j * 12 + 1) (by omega), Nat.mul_comm]; exact h1
  · rw [Nat.add_assoc, hc (j * 12 + 2) (by omega), Nat.mul_comm]; exact h2
  · rw [Nat.add_assoc, hc (j * 12 + 3) (by omega), Nat.mul_comm]; exact h3
  · rw [Nat.add_assoc, hc (j * 12 + 4) (by omega), Nat.mul_comm]; exact h4
  · rw [Nat.add_assoc, hc (j * 12 + 5) (by omega), Nat.mul_comm]; exact h5
  · rw [Nat.add_assoc, hc (j * 12 + 6) (by omega), Nat.mul_comm]; exact h6
  · rw [Nat.add_assoc, hc (j * 12 + 7) (by omega), Nat.mul_comm]; exact h7
  · rw [Nat.add_assoc, hc (j * 12 + 8) (by omega), Nat.mul_comm]; exact h8
  · rw [Nat.add_assoc, hc (j * 12 + 9) (by omega), Nat.mul_comm]; exact h9
  · rw [Nat.add_assoc, hc (j * 12 + 10) (by omega), Nat.mul_comm]; exact h10
  · rw [Nat.add_assoc, hc (j * 12 + 11) (by omega), Nat.mul_comm]; exact h11
end Go.Proofs.Ytkjhnefbcnnjlaa.Ord
namespace Go.Proofs.Ytkjhnefbcnnjlaa.Nt
open Go.RowKit
open Go.Proofs.Ytkjhnefbcnnjlaa.Lk (HasRow HasLks.keep)
open Go.Proofs.Ytkjhnefbcnnjlaa.Tr (HasRts.keep)
open Go.Proofs.Ytkjhnefbcnnjlaa.Msg (Ev FitE evV)
open Go.Proofs.Ytkjhnefbcnnjlaa.Fib
open Go.Proofs.Ytkjhnefbcnnjlaa.Ord (St HasSts HasSts.keep HasEvs.keep)
open Go.Proofs.Ytkjhnefbcnnjlaa.Addr (RowAt below2 below_new bset RowAt.lt RowAt.below RowAt.new RowAt.alloc gset grefl cells2)
theorem rowB {W W' : World} {g B : Nat} {cs : List Value} {t : TypeId} (h : RowAt W g cs t) (hb : Below B W W') (hg : g < B) : RowAt W' g cs t := (hb.block g hg).trans h
/-- a net that a call returned, with a word -/
def NetIs (n : NetT) (z : Int) (w : World) (e : Ending) (w' : World) : Prop :=
  ∃ o1 n1 m1 o2 n2 m2, e = .returned (.tuple #[.agg #[.slice o1 n1 m1, .slice o2 n2 m2], .int .i64 z]) ∧ HasSts w' (.slice o1 n1 m1) n.seats ∧ HasRos w' (.slice o2 n2 m2) n.ros ∧ Below w.heap.size w w'
end Go.Proofs.Ytkjhnefbcnnjlaa.Nt
