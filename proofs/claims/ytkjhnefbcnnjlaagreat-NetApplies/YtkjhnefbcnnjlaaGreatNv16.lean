/- fresh.Net. -/
import Derived.Test.YtkjhnefbcnnjlaaGreatNv14
import Derived.Test.YtkjhnefbcnnjlaaGreatNv15
set_option linter.unusedVariables false
namespace Go.Proofs.YtkjhnefbcnnjlaaGreat.Nt
open Go.RowKit
open Go.Proofs.YtkjhnefbcnnjlaaGreat.Lk (HasLks HasRow HasLks.keep hasRow_own)
open Go.Proofs.YtkjhnefbcnnjlaaGreat.Tr (HasRts HasRts.keep)
open Go.Proofs.YtkjhnefbcnnjlaaGreat.Fib
open Go.Proofs.YtkjhnefbcnnjlaaGreat.Ord (St HasSts HasSts.keep stCs)
open Go.Proofs.YtkjhnefbcnnjlaaGreat.Addr (RowAt below2 below_new bset RowAt.lt RowAt.cell RowAt.below RowAt.drew RowAt.new RowAt.alloc RowAt.gkeep RowAt.set1 RowAt.far1 cells2 cells4 gset grefl results_cell)
theorem roCs_set (M : List RoM) (m : RoM) : ∀ j, j < M.length → ((((roCs M).set (j * 4) (.int .i64 m.ro.id)).set (j * 4 + 1) (.bool m.ro.up)).set (j * 4 + 2) m.x).set (j * 4 + 3) m.y = roCs (M.set j m) := by
  induction M with
  | nil => intro j h; simp at h
  | cons p ps ih =>
    intro j h
    cases j with
    | zero => rfl
    | succ j =>
      have h1 : roCs (p :: ps) = .int .i64 p.ro.id :: .bool p.ro.up :: p.x :: p.y :: roCs ps := rfl
      have h2 : roCs ((p :: ps).set (j + 1) m) = .int .i64 p.ro.id :: .bool p.ro.up :: p.x :: p.y :: roCs (ps.set j m) := rfl
      rw [h1, h2, ← ih j (by simpa using h)]
      rw [show (j + 1) * 4 + 3 = j * 4 + 3 + 1 + 1 + 1 + 1 by omega, show (j + 1) * 4 + 2 = j * 4 + 2 + 1 + 1 + 1 + 1 by omega, show (j + 1) * 4 + 1 = j * 4 + 1 + 1 + 1 + 1 + 1 by omega, show (j + 1) * 4 = j * 4 + 1 + 1 + 1 + 1 by omega]
      simp only [List.set_cons_succ]
/-- a router's rows are not of a block -/
def Off (g : Nat) (m : RoM) : Prop := (0 < m.ro.rts.length → m.x.ownBlock ≠ some g) ∧ (0 < m.ro.lks.length → m.y.ownBlock ≠ some g)
theorem RowsOf.off {W W' : World} {m : RoM} {g : Nat} (h : RowsOf W m) (ho : Off g m) (hg : W.grownBy W' (some g)) : RowsOf W' m := by
  refine ⟨row_apart h.1 hg (fun b i k c e hp hb => ho.1 hp ?_), row_apart h.2 hg (fun b i k c e hp hb => ho.2 hp ?_)⟩
  · rw [e, hb]; rfl
  · rw [e, hb]; rfl
/-- a row of routers of one's own -/
structure OwnM (B : Nat) (W : World) (g cap : Nat) (L : List Ro) : Prop where
  ex : ∃ M, rosOf M = L ∧ W.ownsRow B 51 4 (.slice (some ⟨g, 0, none⟩) L.length cap) L.length (roCs M) ∧ (∀ m ∈ M, RowsOf W m ∧ Off g m)
theorem own4 {W : World} {B e g n cap q : Nat} {xs : List Value} (h : W.ownsRow B e 4 (.slice (some ⟨g, 0, none⟩) n cap) n xs) (v0 v1 v2 v3 : Value) : ((((W.setCell ⟨g, q * 4, none⟩ v0).setCell ⟨g, q * 4 + 1, none⟩ v1).setCell ⟨g, q * 4 + 2, none⟩ v2).setCell ⟨g, q * 4 + 3, none⟩ v3).ownsRow B e 4 (.slice (some ⟨g, 0, none⟩) n cap) n ((((xs.set (q * 4) v0).set (q * 4 + 1) v1).set (q * 4 + 2) v2).set (q * 4 + 3) v3) :=
  ((((h.stored (q * 4) v0).1.stored (q * 4 + 1) v1).1.stored (q * 4 + 2) v2).1.stored (q * 4 + 3) v3).1
theorem gr4 (W : World) (g a b c d : Nat) (x y z u : Value) : W.grownBy ((((W.setCell ⟨g, a, none⟩ x).setCell ⟨g, b, none⟩ y).setCell ⟨g, c, none⟩ z).setCell ⟨g, d, none⟩ u) (some g) := gset (gset (gset (gset (grefl _ _))))
theorem OwnM.put {B : Nat} {W : World} {g cap : Nat} {L : List Ro} (h : OwnM B W g cap L) (k : Nat) (hk : k < L.length) (x y : Value) (hr : RowsOf W ⟨L[k], x, y⟩) (ho : Off g ⟨L[k], x, y⟩) :
    OwnM B ((((W.setCell ⟨g, k * 4, none⟩ (.int .i64 L[k].id)).setCell ⟨g, k * 4 + 1, none⟩ (.bool L[k].up)).setCell ⟨g, k * 4 + 2, none⟩ x).setCell ⟨g, k * 4 + 3, none⟩ y) g cap L := by
  obtain ⟨M, e, h1, h2⟩ := h.ex
  have hkM : k < M.length := by rw [← e] at hk; simpa [rosOf] using hk
  have hro : M[k].ro = L[k] := by subst e; simp [rosOf]
  refine ⟨M.set k ⟨L[k], x, y⟩, ?_, ?_, fun m hm => ?_⟩
  · have e2 : rosOf (M.set k ⟨L[k], x, y⟩) = (rosOf M).set k L[k] := by unfold rosOf; rw [List.map_set]
    rw [e2, e]
    exact List.set_getElem_self hk
  · have := own4 (q := k) h1 (.int .i64 L[k].id) (.bool L[k].up) x y
    rw [← roCs_set M ⟨L[k], x, y⟩ k hkM]
    exact this
  · have hg := gr4 W g (k * 4) (k * 4 + 1) (k * 4 + 2) (k * 4 + 3) (.int .i64 L[k].id) (.bool L[k].up) x y
    rcases List.mem_or_eq_of_mem_set hm with hm | rfl
    · exact ⟨(h2 m hm).1.off (h2 m hm).2 hg, (h2 m hm).2⟩
    · exact ⟨hr.off ho hg, ho⟩
theorem OwnM.below {B : Nat} {W W' : World} {g cap : Nat} {L : List Ro} (h : OwnM B W g cap L) (hb : Below W.heap.size W W') : OwnM B W' g cap L := by
  obtain ⟨M, e, h1, h2⟩ := h.ex
  refine ⟨M, e, ?_, fun m hm => ⟨(h2 m hm).1.keep hb, (h2 m hm).2⟩⟩
  refine ⟨h1.1, ?_⟩
  rcases h1.2 with h0 | ⟨g', cap', cur, e1, hg, hgb, rest⟩
  · exact .inl h0
  · exact .inr ⟨g', cap', cur, e1, hg, by rw [hb.block g' (Array.getElem?_eq_some_iff.1 hgb).1]; exact hgb, rest⟩
theorem OwnM.has {B : Nat} {W : World} {g cap : Nat} {L : List Ro} (h : OwnM B W g cap L) : HasRos W (.slice (some ⟨g, 0, none⟩) L.length cap) L := by
  obtain ⟨M, e, h1, h2⟩ := h.ex
  have hl : M.length = L.length := by rw [← e]; simp [rosOf]
  exact ⟨M, e, by rw [hl]; exact hasRow_own h1, fun m hm => (h2 m hm).1⟩
/-- what the copy of a row of routers is -/
theorem OwnM.new {w W : World} {L : List Ro} {M : List RoM} {u : Value} (e : rosOf M = L) (hr : ∀ m ∈ M, RowsOf w m) (ho : W.ownsRow w.heap.size 51 4 u L.length (roCs M)) (hb : Below w.heap.size w W) (hl : 0 < L.length) : ∃ g cap, u = .slice (some ⟨g, 0, none⟩) L.length cap ∧ w.heap.size ≤ g ∧ L.length ≤ cap ∧ cap ≤ 9223372036854775807 ∧ OwnM w.heap.size W g cap L := by
  rcases ho.2 with ⟨_, h0⟩ | ⟨g, cap, cur, e1, hg, hgb, hnc, hcm, rest⟩
  · omega
  · refine ⟨g, cap, e1, hg, hnc, by unfold maxLen at hcm; exact hcm, ⟨M, e, by rw [← e1]; exact ho, fun m hm => ⟨(hr m hm).keep hb, ?_⟩⟩⟩
    obtain ⟨o1, c1, o2, c2, e2, e3⟩ := (hr m hm).slices
    have k1 := (hr m hm).1
    have k2 := (hr m hm).2
    rw [e2] at k1
    rw [e3] at k2
    refine ⟨fun hp hx => ?_, fun hp hx => ?_⟩
    · obtain ⟨_, b, i, eo, hbl, _⟩ := Lk.HasRow.at k1 hp
      rw [e2, eo] at hx
      injection hx with hx
      simp only at hx
      omega
    · obtain ⟨_, b, i, eo, hbl, _⟩ := Lk.HasRow.at k2 hp
      rw [e3, eo] at hx
      injection hx with hx
      simp only at hx
      omega
/-- a row whose first cell is no slice stands apart from a box of slices -/
theorem row_off {W W' : World} {v : Value} {sz n B : Nat} {cs : List Value} {o1 o2 : Option Addr} {n1 n2 c1 c2 : Nat} {t : TypeId} (h : HasRow W v sz n cs) (hr : RowAt W B [.slice o1 n1 c1, .slice o2 n2 c2] t) (hg : W.grownBy W' (some B)) (hz : 0 < n → 0 < sz ∧ ∃ c, cs[0]? = some c ∧ ∀ o k m, c ≠ .slice o k m) : HasRow W' v sz n cs := by
  refine row_apart h hg (fun b i m c e hp hb => ?_)
  subst hb
  subst e
  obtain ⟨_, b', i', e', _, hc⟩ := Lk.HasRow.at h hp
  injection e' with e'
  injection e' with e1 e2
  subst e1 e2
  obtain ⟨hz0, x, hx, hne⟩ := hz hp
  have h0 := hc 0 (Nat.mul_pos hp hz0)
  rw [Nat.add_zero, RowAt.cell hr, hx] at h0
  rcases i with _ | _ | i
  · simp only [List.getElem?_cons_zero] at h0
    injection h0 with h0
    exact hne _ _ _ h0.symm
  · simp only [List.getElem?_cons_succ, List.getElem?_cons_zero] at h0
    injection h0 with h0
    exact hne _ _ _ h0.symm
  · simp at h0
theorem sts_off {W W' : World} {v : Value} {S : List St} {B : Nat} {o1 o2 : Option Addr} {n1 n2 c1 c2 : Nat} {t : TypeId} (h : HasSts W v S) (hr : RowAt W B [.slice o1 n1 c1, .slice o2 n2 c2] t) (hg : W.grownBy W' (some B)) : HasSts W' v S :=
  row_off (show HasRow W v 4 S.length (stCs S) from h) hr hg (fun hp => by
    cases S with
    | nil => simp at hp
    | cons s S => exact ⟨by decide, _, rfl, fun o k m e => by cases e⟩)
theorem rowsOf_off {W W' : World} {m : RoM} {B : Nat} {o1 o2 : Option Addr} {n1 n2 c1 c2 : Nat} {t : TypeId} (h : RowsOf W m) (hr : RowAt W B [.slice o1 n1 c1, .slice o2 n2 c2] t) (hg : W.grownBy W' (some B)) : RowsOf W' m :=
  ⟨row_off (show HasRow W m.x 6 m.ro.rts.length (Tr.rtCs m.ro.rts) from h.1) hr hg (fun hp => by
    generalize m.ro.rts = l at hp
    cases l with
    | nil => simp at hp
    | cons s S => exact ⟨by decide, _, rfl, fun o k m e => by cases e⟩),
   row_off (show HasRow W m.y 2 m.ro.lks.length (Lk.lkCs m.ro.lks) from h.2) hr hg (fun hp => by
    generalize m.ro.lks = l at hp
    cases l with
    | nil => simp at hp
    | cons s S => exact ⟨by decide, _, rfl, fun o k m e => by cases e⟩)⟩
theorem roM_off {W W' : World} {v : Value} {M : List RoM} {B : Nat} {o1 o2 : Option Addr} {n1 n2 c1 c2 : Nat} {t : TypeId} (h : HasRoM W v M) (hr : RowAt W B [.slice o1 n1 c1, .slice o2 n2 c2] t) (hg : W.grownBy W' (some B)) : HasRoM W' v M :=
  ⟨row_off h.1 hr hg (fun hp => by
    cases M with
    | nil => simp at hp
    | cons s S => exact ⟨by decide, _, rfl, fun o k m e => by cases e⟩), fun m hm => rowsOf_off (h.2 m hm) hr hg⟩
theorem ros_off {W W' : World} {v : Value} {L : List Ro} {B : Nat} {o1 o2 : Option Addr} {n1 n2 c1 c2 : Nat} {t : TypeId} (h : HasRos W v L) (hr : RowAt W B [.slice o1 n1 c1, .slice o2 n2 c2] t) (hg : W.grownBy W' (some B)) : HasRos W' v L := by
  obtain ⟨M, e, hM⟩ := h
  exact ⟨M, e, roM_off hM hr hg⟩
theorem OwnM.other {B : Nat} {W W' : World} {g cap C : Nat} {L : List Ro} {o1 o2 : Option Addr} {n1 n2 c1 c2 : Nat} {t : TypeId} (h : OwnM B W g cap L) (hr : RowAt W C [.slice o1 n1 c1, .slice o2 n2 c2] t) (hg : W.grownBy W' (some C)) (hne : g ≠ C) : OwnM B W' g cap L := by
  obtain ⟨M, e, h1, h2⟩ := h.ex
  refine ⟨M, e, ⟨h1.1, ?_⟩, fun m hm => ⟨rowsOf_off (h2 m hm).1 hr hg, (h2 m hm).2⟩⟩
  rcases h1.2 with h0 | ⟨g', cap', cur, e1, hgB, hgb, rest⟩
  · exact .inl h0
  · injection e1 with e1 _ e3
    injection e1 with e1
    injection e1 with e1
    subst e1 e3
    exact .inr ⟨_, _, cur, rfl, hgB, by rw [hg.block _ (Array.getElem?_eq_some_iff.1 hgb).1 (fun e => by injection e with e; exact hne e)]; exact hgb, rest⟩
set_option maxHeartbeats 8000000 in
set_option maxRecDepth 20000 in
theorem fresh_walk (S : List St) (L : List Ro) (so lo : Option Addr) (sn ln sc lc : Nat) (w : World) (hs : HasSts w (.slice so sn sc) S) (hl : HasRos w (.slice lo ln lc) L) (el : Hid (ln = L.length)) (h1 : S.length ≤ 1000) (h2 : L.length ≤ 1000) (h3 : ∀ R ∈ L, R.rts.length ≤ 1000 ∧ R.lks.length ≤ 1000) :
    Calls Tryz.prog 14 #[.agg #[.slice so sn sc, .slice lo ln lc]] w fun e w' => ∃ o1 n1 m1 o2 n2 m2, e = .returned (.agg #[.slice o1 n1 m1, .slice o2 n2 m2]) ∧ HasSts w' (.slice o1 n1 m1) S ∧ HasRos w' (.slice o2 n2 m2) L ∧ Below w.heap.size w w' := by
  have H3 : Hid (∀ R ∈ L, R.rts.length ≤ 1000 ∧ R.lks.length ≤ 1000) := h3
  clear h3
  have C1 : Hid (∀ W, HasSts W (.slice so sn sc) S → Calls Tryz.prog 28 #[.slice so sn sc] W fun e w' => ∃ o n m, e = .returned (.slice o n m) ∧ HasSts w' (.slice o n m) S ∧ Below W.heap.size W w') := by
    intro W hW
    refine (Ord.clone_any S _ W hW (by omega)).mono ?_
    rintro e w' ⟨u, rfl, ho, hb'⟩
    have hh : HasSts w' u S := Ord.hasRow_own ho
    obtain ⟨o, c, rfl, _⟩ := Ord.HasRow.slice hh
    exact ⟨_, _, _, rfl, hh, hb'⟩
  have C2 : Hid (∀ W, HasRos W (.slice lo ln lc) L → Calls Tryz.prog 29 #[.slice lo ln lc] W fun e w' => ∃ o m, e = .returned (.slice o ln m) ∧ Hid (ln ≤ m ∧ m ≤ 9223372036854775807 ∧ HasRos w' (.slice o ln m) L ∧ (0 < ln → ∃ g, o = some ⟨g, 0, none⟩ ∧ W.heap.size ≤ g ∧ OwnM W.heap.size w' g m L)) ∧ Below W.heap.size W w') := by
    intro W hW
    obtain ⟨M, eM, hM⟩ := hW
    have hlM : M.length = L.length := by rw [← eM]; simp [rosOf]
    refine (Nt.clone_any M _ W hM (by omega)).mono ?_
    rintro e w' ⟨u, rfl, ho, hb'⟩
    have hh : HasRos w' u L := ⟨M, eM, hasRow_own ho, fun m hm => (hM.2 m hm).keep hb'⟩
    obtain ⟨o, c, rfl, hc1, hc2⟩ := HasRos.slice hh
    rw [hlM] at ho
    have hle := el.out
    refine ⟨o, c, by rw [hle], ⟨by omega, hc2, by rw [hle]; exact hh, fun hp => ?_⟩, hb'⟩
    obtain ⟨g, cap, e1, k1, k2, k3, k4⟩ := OwnM.new eM hM.2 ho hb' (by omega)
    injection e1 with e1 e2 e3
    subst e1 e3
    exact ⟨g, rfl, k1, k4⟩
  obtain ⟨X, hX⟩ : ∃ X, X = (w.alloc (.cells #[.slice so sn sc, .slice lo ln lc] 25)).alloc (.cells #[.slice none 0 0, .slice none 0 0] 25) := ⟨_, rfl⟩
  have hB : Below w.heap.size w X := by rw [hX]; exact below_new (below_new (Below.refl _ _) _) _
  have r0 : RowAt X w.heap.size [.slice so sn sc, .slice lo ln lc] 25 := by rw [hX]; exact (RowAt.new _ _ _).alloc _
  have r1 : RowAt X (w.heap.size + 1) [.slice none 0 0, .slice none 0 0] 25 := by rw [hX, ← World.size_alloc w (.cells #[.slice so sn sc, .slice lo ln lc] 25)]; exact RowAt.new _ _ _
  have HA : Hid (HasSts X (.slice so sn sc) S ∧ HasRos X (.slice lo ln lc) L) := ⟨hs.keep hB, hl.keep hB⟩
  have hni : (ln : Int) ≤ 1000 := by have := el.out; omega
  clear hs hl h1 h2
  go_enter Tryz.func14, Tryz.ntmps14
  go_upto_region 1 with fail
  rw [← hX]
  clear hX
  obtain ⟨p0, p1, pf⟩ := cells2 r0
  go_region_with (first
    | (go_at_call 28
       refine (C1.out _ (HA.out.1.keep (Below.refl _ _).drew)).mono ?_
       rintro e w1 ⟨o3, n3, m3, rfl, hh1, hb1'⟩
       have hb1 : Below X.heap.size X w1 := below2 (Below.refl _ _).drew hb1'
       obtain ⟨p0, p1, pf⟩ := cells2 (RowAt.below r0 hb1))
    | (go_at_call 29
       refine (C2.out _ (HA.out.2.keep hb1)).mono ?_
       rintro e w2 ⟨o4, m4, rfl, hh2, hb2⟩
       have hb3 : Below X.heap.size X w2 := below2 hb1 hb2
       obtain ⟨p0, p1, pf⟩ := cells2 (RowAt.below r0 hb3)))
  all_goals
    have R2 := RowAt.below r0 hb3
    have R1 := RowAt.below r1 hb3
    have hh3 := hh1.keep hb2
    obtain ⟨Y, hY⟩ : ∃ Y, Y = (w2.setCell ⟨w.heap.size, 0, none⟩ (.slice o3 n3 m3)).setCell ⟨w.heap.size, 1, none⟩ (.slice o4 ln m4) := ⟨_, rfl⟩
    have g2 : w2.grownBy Y (some w.heap.size) := by rw [hY]; exact gset (gset (grefl _ _))
    have y0 : RowAt Y w.heap.size [.slice o3 n3 m3, .slice o4 ln m4] 25 := by rw [hY]; exact (R2.set1 0 _).set1 1 _
    have y1 : RowAt Y (w.heap.size + 1) [.slice none 0 0, .slice none 0 0] 25 := by rw [hY]; exact (R1.far1 (by omega) _ _).far1 (by omega) _ _
    have hBY : Below w.heap.size w Y := by rw [hY]; exact bset (bset (below2 hB hb3) (Nat.le_refl _)) (Nat.le_refl _)
    have HS : Hid (HasSts Y (.slice o3 n3 m3) S) := sts_off hh3 R2 g2
    obtain ⟨hm1, hm2, hro, hown⟩ := hh2.out
    have HR : Hid (HasRos Y (.slice o4 ln m4) L) := ros_off hro R2 g2
    have HO : Hid (0 < ln → ∃ g, o4 = some ⟨g, 0, none⟩ ∧ g ≠ w.heap.size ∧ g ≠ w.heap.size + 1 ∧ w.heap.size ≤ g ∧ (∀ b i m c, (.slice o3 n3 m3 : Value) = .slice (some ⟨b, i, none⟩) m c → 0 < S.length → b ≠ g) ∧ OwnM w.heap.size Y g m4 L) := fun hp => by
      obtain ⟨g, e1, e2, e3⟩ := hown hp
      have hx1 := hB.size
      have hx2 := hb1.size
      have hx3 : w.heap.size + 1 < X.heap.size := r1.lt
      refine ⟨g, e1, by omega, by omega, by omega, fun b i m c eb hp2 => ?_, ?_⟩
      · obtain ⟨_, b', i', e', hbl, _⟩ := Ord.HasRow.at hh1 hp2
        injection eb with eb
        rw [eb] at e'
        injection e' with e'
        injection e' with e5 e6
        omega
      obtain ⟨M, eM, k1, k2⟩ := e3.ex
      have k3 : OwnM w.heap.size w2 g m4 L := ⟨M, eM, ⟨k1.1, by
        rcases k1.2 with h0 | ⟨g', cap', cur, q1, q2, q3⟩
        · exact .inl h0
        · exact .inr ⟨g', cap', cur, q1, by omega, q3⟩⟩, k2⟩
      exact k3.other R2 g2 (by omega)
    rw [← hY]
    clear hY hh1 hh2 hh3 hro hown R2 R1 hb1 hb2 hb3 hb1' C1 C2 HA r0 r1 g2 p0 p1 pf hB
    have hgzw : w.heap.size ≤ w.heap.size + 1 := Nat.le_succ _
    have hgne : w.heap.size ≠ w.heap.size + 1 := by omega
    obtain ⟨gn, hgn⟩ : ∃ gn, gn = w.heap.size := ⟨_, rfl⟩
    obtain ⟨gz, hgz⟩ : ∃ gz, gz = w.heap.size + 1 := ⟨_, rfl⟩
    have HGN : Hid (w.heap.size ≤ gn) := by rw [hgn]; exact Nat.le_refl _
    rw [← hgz] at y1 HO hgzw hgne ⊢
    rw [← hgn] at y0 hgne ⊢
    have HO2 : Hid (0 < ln → ∃ g, o4 = some ⟨g, 0, none⟩ ∧ g ≠ gn ∧ g ≠ gz ∧ w.heap.size ≤ g ∧ (∀ b i m c, (.slice o3 n3 m3 : Value) = .slice (some ⟨b, i, none⟩) m c → 0 < S.length → b ≠ g) ∧ OwnM w.heap.size Y g m4 L) := by rw [hgn]; exact HO.out
    clear HO hgn hgz
    obtain ⟨p0, p1, pf⟩ := cells2 y0
    by_cases hl0 : 0 < ln
    · obtain ⟨g, rfl, hne1, hne2, hwg, hap, hOM⟩ := HO2.out hl0
      have HAP : Hid (∀ b i m c, (.slice o3 n3 m3 : Value) = .slice (some ⟨b, i, none⟩) m c → 0 < S.length → b ≠ g) := hap
      clear hap
      have HOM : Hid (OwnM w.heap.size Y g m4 L) := hOM
      clear HO2 HR hOM
      go_wp2_with fail
      clear p0 p1 pf
      go_loopw [16] (fun i wr => ∃ k : Nat, k ≤ ln ∧ i = .int .i64 k ∧ Hid (Below w.heap.size w wr ∧ RowAt wr gn [.slice o3 n3 m3, .slice (some ⟨g, 0, none⟩) ln m4] 25 ∧ RowAt wr gz [.slice none 0 0, .slice none 0 0] 25 ∧ HasSts wr (.slice o3 n3 m3) S ∧ OwnM w.heap.size wr g m4 L)) (fun i _ => ln - (Go.RowKit.intOf i).toNat)
      case atStart => exact ⟨0, by omega, rfl, hBY, y0, y1, HS.out, HOM.out⟩
      case round =>
        obtain ⟨k, hk, rfl, HI⟩ := hrel
        clear HS HOM y0 y1 hBY
        obtain ⟨hbw, ry0, ry1, hsS, hOM⟩ := HI.out
        clear HI
        by_cases hlt : k < ln
        · have hkz : k < L.length := by rw [← el.out]; exact hlt
          have hhas := hOM.has
          rw [← el.out] at hhas
          obtain ⟨b1, i1, o1, c1, o2, c2, e1, hb1, a0, a1, a2, a3, ar, ak⟩ := HasRos.cell hhas k hkz
          injection e1 with e1
          injection e1 with e11 e12
          subst e11 e12
          simp only [Nat.zero_add] at a0 a1 a2 a3
          have h1000 := H3.out L[k] (List.getElem_mem hkz)
          have HOMk : Hid (∀ (W : World) (x y : Value), OwnM w.heap.size W g m4 L → RowsOf W ⟨L[k], x, y⟩ → Off g ⟨L[k], x, y⟩ → OwnM w.heap.size ((((W.setCell ⟨g, k * 4, none⟩ (.int .i64 L[k].id)).setCell ⟨g, k * 4 + 1, none⟩ (.bool L[k].up)).setCell ⟨g, k * 4 + 2, none⟩ x).setCell ⟨g, k * 4 + 3, none⟩ y) g m4 L) := fun W x y h1 h2 h3 => h1.put k hkz x y h2 h3
          have HCE : Hid (∀ W, OwnM w.heap.size W g m4 L → (∀ j, j < 4 → ∃ z, W.cell? ⟨g, k * 4 + j, none⟩ = some z) ∧ ∀ j, W.frozen? ⟨g, j, none⟩ = false) := fun W h => by
            obtain ⟨M, eM, k1, k2⟩ := h.ex
            have hlM : M.length = L.length := by rw [← eM]; simp [rosOf]
            refine ⟨fun j hj => ?_, fun j => k1.frozenAt j⟩
            have h9 := k1.cellAt (k * 4 + j) (by omega)
            exact ⟨_, h9.trans (List.getElem?_eq_getElem (by rw [roCs_len, hlM]; omega))⟩
          have cf : ∀ W, HasRts W (.slice o1 L[k].rts.length c1) L[k].rts → HasLks W (.slice o2 L[k].lks.length c2) L[k].lks → Calls Tryz.prog 30 #[.agg #[.int .i64 L[k].id, .bool L[k].up, .slice o1 L[k].rts.length c1, .slice o2 L[k].lks.length c2]] W fun e w' => ∃ p1 q1 s1 p2 q2 s2, e = .returned (.agg #[.int .i64 L[k].id, .bool L[k].up, .slice p1 q1 s1, .slice p2 q2 s2]) ∧ Hid (RowsOf w' ⟨L[k], .slice p1 q1 s1, .slice p2 q2 s2⟩ ∧ (g < W.heap.size → Off g ⟨L[k], .slice p1 q1 s1, .slice p2 q2 s2⟩)) ∧ Below W.heap.size W w' := fun W h1 h2 => by
            refine (Fib.fresh_new L[k] _ _ W h1 h2 h1000.1 h1000.2).mono ?_
            rintro e w' ⟨p1, q1, s1, p2, q2, s2, rfl, z1, z2, z3, z4, z5⟩
            exact ⟨_, _, _, _, _, _, rfl, ⟨⟨z1, z2⟩, fun hg => ⟨fun _ hx => by have := z3 _ hx; omega, fun _ hx => by have := z4 _ hx; omega⟩⟩, z5⟩
          generalize L[k] = R at *
          obtain ⟨id, up, rts, lks⟩ := R
          simp only at *
          generalize hn1 : rts.length = q1 at *
          generalize hn2 : lks.length = q2 at *
          clear hn1 hn2 h1000 hhas
          have hki : (k : Int) < (ln : Int) := by omega
          obtain ⟨V, hV⟩ : ∃ V, V = wr.alloc (.cells #[.int .i64 id, .bool up, .slice o1 q1 c1, .slice o2 q2 c2] 51) := ⟨_, rfl⟩
          have hbV : Below wr.heap.size wr V := by rw [hV]; exact below_new (Below.refl _ _) _
          have rV : RowAt V wr.heap.size [.int .i64 id, .bool up, .slice o1 q1 c1, .slice o2 q2 c2] 51 := by rw [hV]; exact RowAt.new _ _ _
          go_upto_region 5 with fail
          rw [← hV]
          replace ry0 := RowAt.below ry0 hbV
          replace ry1 := RowAt.below ry1 hbV
          replace hsS := hsS.keep hbV
          replace hOM := hOM.below hbV
          replace ar := ar.keep hbV
          replace ak := ak.keep hbV
          replace hbw := below2 hbw hbV
          have hgV : g < V.heap.size := Nat.lt_of_lt_of_le hb1 hbV.size
          clear hV hbV a0 a1 a2 a3 hb1
          generalize wr.heap.size = gr at rV ⊢
          obtain ⟨s0, s1, sf⟩ := cells2 ry0
          obtain ⟨t0, t1, t2, t3, tf⟩ := cells4 rV
          have HCF : Hid (HasRts V (.slice o1 q1 c1) rts ∧ HasLks V (.slice o2 q2 c2) lks) := ⟨ar, ak⟩
          have HK : Hid (OwnM w.heap.size V g m4 L) := hOM
          have HSV : Hid (HasSts V (.slice o3 n3 m3) S) := hsS
          clear hOM hsS ar ak
          go_region_with (first
            | (go_at_call 30
               refine (cf _ (HCF.out.1.keep (Below.refl _ _).drew) (HCF.out.2.keep (Below.refl _ _).drew)).mono ?_
               rintro e w5 ⟨x1, x2, x3, x4, x5, x6, rfl, HX, hb5'⟩
               have hb5 : Below V.heap.size V w5 := below2 (Below.refl _ _).drew hb5'
               obtain ⟨s0, s1, sf⟩ := cells2 (RowAt.below ry0 hb5)
               obtain ⟨t0, t1, t2, t3, tf⟩ := cells4 (RowAt.below rV hb5)
               obtain ⟨hce, hfz⟩ := HCE.out w5 (HK.out.below hb5)
               obtain ⟨f0, hf0⟩ := hce 0 (by omega)
               obtain ⟨f1, hf1⟩ := hce 1 (by omega)
               obtain ⟨f2, hf2⟩ := hce 2 (by omega)
               obtain ⟨f3, hf3⟩ := hce 3 (by omega)
               simp only [Nat.add_zero] at hf0))
          all_goals
            obtain ⟨Z, hZ⟩ : ∃ Z, Z = (((w5.setCell ⟨g, k * 4, none⟩ (.int .i64 id)).setCell ⟨g, k * 4 + 1, none⟩ (.bool up)).setCell ⟨g, k * 4 + 2, none⟩ (.slice x1 x2 x3)).setCell ⟨g, k * 4 + 3, none⟩ (.slice x4 x5 x6) := ⟨_, rfl⟩
            have hgr : w5.grownBy Z (some g) := by rw [hZ]; exact gr4 _ _ _ _ _ _ _ _ _ _
            have HF : Hid (Below w.heap.size w Z ∧ RowAt Z gn [.slice o3 n3 m3, .slice (some ⟨g, 0, none⟩) ln m4] 25 ∧ RowAt Z gz [.slice none 0 0, .slice none 0 0] 25 ∧ HasSts Z (.slice o3 n3 m3) S ∧ OwnM w.heap.size Z g m4 L) := by
              refine ⟨?_, (RowAt.below ry0 hb5).gkeep hgr (fun h => by injection h with h; exact hne1 h.symm), (RowAt.below ry1 hb5).gkeep hgr (fun h => by injection h with h; exact hne2 h.symm), row_apart (show HasRow w5 _ 4 S.length (stCs S) from HSV.out.keep hb5) hgr (fun b i m c e hp => HAP.out b i m c e hp), ?_⟩
              · rw [hZ]; exact bset (bset (bset (bset (below2 hbw hb5) hwg) hwg) hwg) hwg
              · rw [hZ]; exact HOMk.out w5 _ _ (HK.out.below hb5) HX.out.1 (HX.out.2 hgV)
            rw [← hZ]
            clear hZ hgr HX HCF HK HSV HOMk HCE cf hce hfz hf0 hf1 hf2 hf3 ry0 ry1 hbw
            go_wp2_with fail
            go_roundw
            case rel => exact ⟨k + 1, by omega, by go_num, HF⟩
            case measure => simp [Go.RowKit.intOf]; omega
        · have hkn2 : k = ln := by omega
          subst hkn2
          have hkd : decide ((k : Int) < (k : Int)) = false := decide_eq_false (by omega)
          have hhas := hOM.has
          rw [← el.out] at hhas
          obtain ⟨s0, s1, sf⟩ := cells2 ry0
          obtain ⟨q0, q1, qf⟩ := cells2 ry1
          have HG : Hid (HasSts wr (.slice o3 n3 m3) S ∧ HasRos wr (.slice (some ⟨g, 0, none⟩) k m4) L) := ⟨hsS, hhas⟩
          clear hsS hhas hOM
          go_wp2_with fail
          (try simp only [Exit.inBlock, Exit.then])
          refine bodyPost_ret (v := .agg #[.slice o3 n3 m3, .slice (some ⟨g, 0, none⟩) k m4]) ?_ rfl ⟨_, _, _, _, _, _, rfl, ?_, ?_, ?_⟩
          · rw [results_cell rfl]
            go_simp
          · exact sts_off HG.out.1 ry1 (gset (gset (grefl _ _)))
          · exact ros_off HG.out.2 ry1 (gset (gset (grefl _ _)))
          · exact bset (bset hbw hgzw) hgzw
    · have hl1 : ln = 0 := by omega
      subst hl1
      have hkd : decide ((0 : Int) < ((0 : Nat) : Int)) = false := by decide
      obtain ⟨q0, q1, qf⟩ := cells2 y1
      have y2 := y1
      have HG : Hid (HasSts Y (.slice o3 n3 m3) S ∧ HasRos Y (.slice o4 0 m4) L) := ⟨HS.out, HR.out⟩
      go_wp2_with fail
      refine wp_loop_rounds 1 ?_
      repeat any_goals (rw [rounds_succ]; go_wp2_with fail)
      (try simp only [Exit.inBlock, Exit.then])
      refine bodyPost_ret (v := .agg #[.slice o3 n3 m3, .slice o4 0 m4]) ?_ rfl ⟨_, _, _, _, _, _, rfl, ?_, ?_, ?_⟩
      · rw [results_cell rfl]
        go_simp
      · exact sts_off HG.out.1 y2 (gset (gset (grefl _ _)))
      · exact ros_off HG.out.2 y2 (gset (gset (grefl _ _)))
      · exact bset (bset hBY hgzw) hgzw
theorem fresh_any (n : NetT) (u v : Value) (w : World) (hs : HasSts w u n.seats) (hl : HasRos w v n.ros) (h1 : n.seats.length ≤ 1000) (h2 : n.ros.length ≤ 1000) (h3 : ∀ R ∈ n.ros, R.rts.length ≤ 1000 ∧ R.lks.length ≤ 1000) :
    Calls Tryz.prog 14 #[.agg #[u, v]] w fun e w' => ∃ o1 n1 m1 o2 n2 m2, e = .returned (.agg #[.slice o1 n1 m1, .slice o2 n2 m2]) ∧ HasSts w' (.slice o1 n1 m1) n.seats ∧ HasRos w' (.slice o2 n2 m2) n.ros ∧ Below w.heap.size w w' := by
  obtain ⟨so, sc, rfl, _⟩ := Ord.HasRow.slice hs
  obtain ⟨lo, lc, rfl, _⟩ := HasRos.slice hl
  exact fresh_walk n.seats n.ros so lo _ _ sc lc w hs hl rfl h1 h2 h3
end Go.Proofs.YtkjhnefbcnnjlaaGreat.Nt
