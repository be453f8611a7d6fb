/- Where a router is in a net. -/
import Derived.Test.YtkjhnefbcnnjlaaTv12
import Derived.Test.YtkjhnefbcnnjlaaTv14
import Derived.Test.YtkjhnefbcnnjlaaTv16
import Derived.Test.YtkjhnefbcnnjlaaTv13
import Derived.Test.YtkjhnefbcnnjlaaTv11
import Derived.Test.YtkjhnefbcnnjlaaTv01
set_option linter.unusedVariables false
namespace Go.Proofs.Ytkjhnefbcnnjlaa.Fib
open Go.Proofs.Ytkjhnefbcnnjlaa.Addr (Pf okP)
open Go.Proofs.Ytkjhnefbcnnjlaa.Msg (Ev Ac okE FitE okA headB partsB)
open Go.Proofs.Ytkjhnefbcnnjlaa.Lk (Lk okL okK FitL delL others)
open Go.Proofs.Ytkjhnefbcnnjlaa.Tr (Rt okT okR FitR putT delT othersT)
theorem okE_parts {e : Ev} (h : okE e = true) : (1 ≤ e.kind ∧ e.kind ≤ 6) ∧ (0 ≤ e.router ∧ e.router ≤ 1048576) ∧ okP e.pf = true ∧ (0 ≤ e.iface ∧ e.iface ≤ 65536) ∧ (0 ≤ e.peer ∧ e.peer ≤ 1048576) ∧ (e.kind = 3 → okA e.act = true) := by
  unfold okE headB partsB at h
  simp only [Bool.and_eq_true, decide_eq_true_eq, Bool.or_eq_true, and_assoc] at h
  obtain ⟨h1, h2, h3, h4, h5, h6, h7, h8, h9, h10, h11, h12, h13, h14, h15⟩ := h
  refine ⟨⟨h1, h2⟩, ⟨h3, h4⟩, h9, ⟨h10, h11⟩, ⟨h12, h13⟩, fun hk => ?_⟩
  rcases h14 with h | h
  · exact absurd hk h
  · exact h
theorem okId_iff (i : Int) : okId i = true ↔ 0 ≤ i ∧ i ≤ 1048576 := by unfold okId; simp
theorem okK_of {i p : Int} (h1 : 0 ≤ i ∧ i ≤ 65536) (h2 : 0 ≤ p ∧ p ≤ 1048576) : okK ⟨i, p⟩ = true := by
  unfold okK
  simp only [Bool.and_eq_true, decide_eq_true_eq]
  omega
theorem okR_of {p : Pf} {a : Ac} (h1 : okP p = true) (h2 : okA a = true) : okR ⟨p, a⟩ = true := by unfold okR; rw [h1, h2]; rfl
theorem mem_othersT {l : List Rt} {p : Pf} {z : Rt} : z ∈ othersT l p ↔ z ∈ l ∧ z.pf ≠ p := by
  unfold othersT
  rw [List.mem_filter]
  simp [Tr.ordP_eq]
theorem okT_others {l : List Rt} (h : okT l = true) (p : Pf) : okT (othersT l p) = true := by
  obtain ⟨h1, h2, h3⟩ := (Tr.okT_iff l).1 h
  exact (Tr.okT_iff _).2 ⟨Nat.le_trans (Tr.othersT_le l p) h1, fun x hx => h2 x (mem_othersT.1 hx).1, h3.sublist List.filter_sublist⟩
theorem okL_others {l : List Lk} (h : okL l = true) (i : Int) : okL (others l i) = true := by
  obtain ⟨h1, h2, h3⟩ := (Lk.okL_iff l).1 h
  exact (Lk.okL_iff _).2 ⟨Nat.le_trans (Lk.others_le l i) h1, fun x hx => h2 x ((Lk.mem_others l i x).1 hx).1, Lk.up_others h3 i⟩
theorem okRo_iff (R : Ro) : okRo R = true ↔ okId R.id = true ∧ okT R.rts = true ∧ okL R.lks = true ∧ (R.up = true ∨ (R.rts = [] ∧ R.lks = [])) := by
  unfold okRo
  simp only [Bool.and_eq_true, Bool.or_eq_true, decide_eq_true_eq, and_assoc]
  have : R.rts.length + R.lks.length = 0 ↔ R.rts = [] ∧ R.lks = [] := by
    rw [Nat.add_eq_zero_iff, List.length_eq_zero_iff, List.length_eq_zero_iff]
  rw [this]
/-- an event that happened, or did not: what there is then -/
theorem apply_right {R : Ro} {e : Ev} (hr : okRo R = true) (he : okE e = true) (hm : misRo R e = 0) :
    ((takeRo R e).2 = 0 ∧ okRo (takeRo R e).1 = true ∧ (takeRo R e).1.id = R.id ∧ (takeRo R e).1.up = !decide (e.kind = 2) ∧ (¬ (e.kind = 3 ∨ e.kind = 4 ∨ e.kind = 2) → (takeRo R e).1.rts = R.rts) ∧ (¬ (e.kind = 5 ∨ e.kind = 6 ∨ e.kind = 2) → (takeRo R e).1.lks = R.lks)) ∨ ((takeRo R e).2 = 8 ∧ (takeRo R e).1 = R) := by
  obtain ⟨r1, r2, r3, r4⟩ := (okRo_iff R).1 hr
  obtain ⟨e1, e2, e3, e4, e5, e6⟩ := okE_parts he
  have hrt : e.router = R.id := by
    unfold misRo at hm
    split at hm
    · assumption
    · cases hm
  have hst : decide (e.kind = 1) ≠ R.up := by
    unfold misRo at hm
    rw [if_pos hrt] at hm
    split at hm
    · cases hm
    · assumption
  obtain ⟨id, up, rts, lks⟩ := R
  simp only at r1 r2 r3 r4 hst
  have hup : e.kind ≠ 1 → up = true := fun h => by
    rw [decide_eq_false h] at hst
    cases up
    · exact absurd rfl hst
    · rfl
  unfold takeRo
  simp only
  by_cases k1 : e.kind = 1
  · rw [if_pos k1]
    refine .inl ⟨rfl, (okRo_iff _).2 ⟨r1, r2, r3, .inl rfl⟩, rfl, ?_, fun _ => rfl, fun _ => rfl⟩
    rw [decide_eq_false (by omega)]; rfl
  rw [if_neg k1]
  have hu := hup k1
  subst hu
  by_cases k2 : e.kind = 2
  · rw [if_pos k2]
    refine .inl ⟨rfl, (okRo_iff _).2 ⟨r1, rfl, rfl, .inr ⟨rfl, rfl⟩⟩, rfl, ?_, fun h => absurd (.inr (.inr k2)) h, fun h => absurd (.inr (.inr k2)) h⟩
    rw [decide_eq_true k2]; rfl
  rw [if_neg k2]
  have hd : (true : Bool) = !decide (e.kind = 2) := by rw [decide_eq_false k2]; rfl
  by_cases k3 : e.kind = 3
  · rw [if_pos k3]
    have hR := okR_of e3 (e6 k3)
    by_cases h0 : (putT rts ⟨e.pf, e.act⟩).2 = 0
    · obtain ⟨p1, p2, p3, p4⟩ := Tr.putT_ok h0
      refine .inl ⟨h0, (okRo_iff _).2 ⟨r1, ?_, r3, .inl rfl⟩, rfl, hd, fun h => absurd (.inl k3) h, fun _ => rfl⟩
      show okT (putT rts ⟨e.pf, e.act⟩).1 = true
      rw [p3]; exact p4
    · unfold putT at h0 ⊢
      rw [r2, hR] at h0 ⊢
      simp only [Bool.and_self, if_true] at h0 ⊢
      split at h0
      · rename_i h9
        rw [if_pos h9]
        exact .inr ⟨rfl, rfl⟩
      · exact absurd rfl h0
  rw [if_neg k3]
  by_cases k4 : e.kind = 4
  · rw [if_pos k4]
    have hD : (delT rts e.pf).1 = othersT rts e.pf := by unfold delT; rw [r2, e3]; rfl
    refine .inl ⟨rfl, (okRo_iff _).2 ⟨r1, ?_, r3, .inl rfl⟩, rfl, hd, fun h => absurd (.inr (.inl k4)) h, fun _ => rfl⟩
    show okT (delT rts e.pf).1 = true
    rw [hD]; exact okT_others r2 _
  rw [if_neg k4]
  by_cases k5 : e.kind = 5
  · rw [if_pos k5]
    have hK := okK_of e4 e5
    by_cases h0 : (Lk.putL lks ⟨e.iface, e.peer⟩).2 = 0
    · obtain ⟨p1, p2, p3, p4⟩ := Lk.put_ok h0
      refine .inl ⟨h0, (okRo_iff _).2 ⟨r1, r2, ?_, .inl rfl⟩, rfl, hd, fun _ => rfl, fun h => absurd (.inl k5) h⟩
      show okL (Lk.putL lks ⟨e.iface, e.peer⟩).1 = true
      rw [p4]; exact Lk.ok_ins p1 p2 p3
    · rcases Lk.put_not h0 with h1 | ⟨h1, h2⟩
      · exfalso
        unfold Lk.putL at h1
        rw [r3, hK] at h1
        simp only [Bool.and_self, if_true] at h1
        split at h1 <;> cases h1
      · refine .inr ⟨h1, ?_⟩
        rw [h2]
  rw [if_neg k5]
  have k6 : e.kind = 6 := by omega
  rw [if_pos k6]
  have hD : (delL lks e.iface).1 = others lks e.iface := by unfold delL; rw [r3]; rfl
  refine .inl ⟨rfl, (okRo_iff _).2 ⟨r1, r2, ?_, .inl rfl⟩, rfl, hd, fun _ => rfl, fun h => absurd (.inr (.inl k6)) h⟩
  show okL (delL lks e.iface).1 = true
  rw [hD]; exact okL_others r3 _
theorem apply_cases (R : Ro) (e : Ev) :
    ((applyRo R e).2 = 0 ∧ okRo R = true ∧ okE e = true ∧ misRo R e = 0 ∧ applyRo R e = takeRo R e ∧ okRo (applyRo R e).1 = true ∧ (applyRo R e).1.id = R.id ∧ (applyRo R e).1.up = !decide (e.kind = 2) ∧ (¬ (e.kind = 3 ∨ e.kind = 4 ∨ e.kind = 2) → (applyRo R e).1.rts = R.rts) ∧ (¬ (e.kind = 5 ∨ e.kind = 6 ∨ e.kind = 2) → (applyRo R e).1.lks = R.lks)) ∨ ((applyRo R e).2 = 2 ∧ (applyRo R e).1 = zeroRo) ∨ ((applyRo R e).2 ≠ 0 ∧ (applyRo R e).2 ≠ 2 ∧ (applyRo R e).1 = R ∧ okRo R = true) := by
  unfold applyRo
  cases h : okRo R && okE e with
  | false => exact .inr (.inl ⟨rfl, rfl⟩)
  | true =>
    rw [Bool.and_eq_true] at h
    simp only [if_true]
    by_cases hm : misRo R e = 0
    · rw [if_pos hm]
      rcases apply_right h.1 h.2 hm with h' | ⟨h1, h2⟩
      · exact .inl ⟨h'.1, h.1, h.2, hm, rfl, h'.2⟩
      · exact .inr (.inr ⟨by rw [h1]; decide, by rw [h1]; decide, h2, h.1⟩)
    · rw [if_neg hm]
      refine .inr (.inr ⟨hm, ?_, rfl, h.1⟩)
      show misRo R e ≠ 2
      unfold misRo
      (repeat' split) <;> decide
theorem fit_apply {R : Ro} {e : Ev} (hR : FitRo R) (he : FitE e) : FitRo (applyRo R e).1 := by
  have hz : FitRo zeroRo := ⟨by decide, (by intro x h; cases h), (by intro x h; cases h)⟩
  unfold applyRo
  split
  · split
    · unfold takeRo
      have h3 : FitR ⟨e.pf, e.act⟩ := ⟨⟨he.len, he.n⟩, he.act⟩
      have h5 : FitL ⟨e.iface, e.peer⟩ := ⟨he.iface, he.peer⟩
      by_cases k1 : e.kind = 1
      · rw [if_pos k1]; exact ⟨hR.id, hR.rts, hR.lks⟩
      rw [if_neg k1]
      by_cases k2 : e.kind = 2
      · rw [if_pos k2]; exact ⟨hR.id, (by intro x h; cases h), (by intro x h; cases h)⟩
      rw [if_neg k2]
      by_cases k3 : e.kind = 3
      · rw [if_pos k3]
        refine ⟨hR.id, fun x hx => ?_, hR.lks⟩
        change x ∈ (putT R.rts ⟨e.pf, e.act⟩).1 at hx
        unfold putT at hx
        split at hx
        · split at hx
          · exact hR.rts x hx
          · rcases Tr.insT_mem hx with rfl | hx
            · exact h3
            · exact hR.rts x hx
        · cases hx
      rw [if_neg k3]
      by_cases k4 : e.kind = 4
      · rw [if_pos k4]
        refine ⟨hR.id, fun x hx => ?_, hR.lks⟩
        change x ∈ (delT R.rts e.pf).1 at hx
        unfold delT at hx
        split at hx
        · exact hR.rts x (mem_othersT.1 hx).1
        · cases hx
      rw [if_neg k4]
      by_cases k5 : e.kind = 5
      · rw [if_pos k5]
        refine ⟨hR.id, hR.rts, fun x hx => ?_⟩
        change x ∈ (Lk.putL R.lks ⟨e.iface, e.peer⟩).1 at hx
        unfold Lk.putL at hx
        split at hx
        · split at hx
          · exact hR.lks x ((Lk.mem_others _ _ _).1 hx).1
          · rcases (Lk.mem_insL _ _ _).1 hx with rfl | hx
            · exact h5
            · exact hR.lks x hx.1
        · cases hx
      rw [if_neg k5]
      by_cases k6 : e.kind = 6
      · rw [if_pos k6]
        refine ⟨hR.id, hR.rts, fun x hx => ?_⟩
        change x ∈ (delL R.lks e.iface).1 at hx
        unfold delL at hx
        split at hx
        · exact hR.lks x ((Lk.mem_others _ _ _).1 hx).1
        · cases hx
      rw [if_neg k6]
      exact hR
    · exact hR
  · exact hz
end Go.Proofs.Ytkjhnefbcnnjlaa.Fib
namespace Go.Proofs.Ytkjhnefbcnnjlaa.Nt
open Go.Proofs.Ytkjhnefbcnnjlaa.Msg (Ev okE)
open Go.Proofs.Ytkjhnefbcnnjlaa.Fib
open Go.Proofs.Ytkjhnefbcnnjlaa.Ord (St nextL okL seatedL)
abbrev UpR (L : List Ro) : Prop := L.Pairwise (fun x y => x.id < y.id)
theorem each_up : ∀ {l : List Ro} {t : List St}, eachR l t = true → l.length = t.length → t.Pairwise (fun a b => a.router < b.router) → UpR l := by
  intro l
  induction l with
  | nil => intro t _ _ _; exact List.Pairwise.nil
  | cons R l ih =>
    intro t h hl hu
    cases t with
    | nil => cases h
    | cons s t =>
      simp only [eachR, Bool.and_eq_true] at h
      have hp := List.pairwise_cons.1 hu
      have hlt : l.length = t.length := by simpa using hl
      refine List.pairwise_cons.2 ⟨fun x hx => ?_, ih h.2 hlt hp.2⟩
      obtain ⟨j, hj, rfl⟩ := List.getElem_of_mem hx
      have h1 := (fitsR_ok ((eachR_iff l t hlt).1 h.2 j hj (by omega))).2.1
      have h2 := (fitsR_ok h.1).2.1
      have h3 := hp.1 _ (List.getElem_mem (by omega : j < t.length))
      omega
theorem each_app : ∀ {a : List Ro} {c : List St} {b : List Ro} {d : List St}, eachR a c = true → a.length = c.length → eachR b d = true → eachR (a ++ b) (c ++ d) = true := by
  intro a
  induction a with
  | nil =>
    intro c b d _ hl hb
    have : c = [] := List.eq_nil_of_length_eq_zero hl.symm
    subst this
    exact hb
  | cons R a ih =>
    intro c b d h hl hb
    cases c with
    | nil => cases h
    | cons s c =>
      simp only [eachR, Bool.and_eq_true] at h
      simp only [List.cons_append, eachR, Bool.and_eq_true]
      exact ⟨h.1, ih h.2 (by simpa using hl) hb⟩
theorem each_filter (p : Int → Bool) : ∀ {l : List Ro} {t : List St}, eachR l t = true → l.length = t.length → eachR (l.filter (fun R => p R.id)) (t.filter (fun s => p s.router)) = true ∧ (l.filter (fun R => p R.id)).length = (t.filter (fun s => p s.router)).length := by
  intro l
  induction l with
  | nil =>
    intro t _ hl
    have : t = [] := List.eq_nil_of_length_eq_zero hl.symm
    subst this
    exact ⟨rfl, rfl⟩
  | cons R l ih =>
    intro t h hl
    cases t with
    | nil => cases h
    | cons s t =>
      simp only [eachR, Bool.and_eq_true] at h
      obtain ⟨i1, i2⟩ := ih h.2 (by simpa using hl)
      have he := (fitsR_ok h.1).2.1
      cases hp : p R.id with
      | false =>
        rw [List.filter_cons_of_neg (by rw [hp]; decide), List.filter_cons_of_neg (by rw [← he, hp]; decide)]
        exact ⟨i1, i2⟩
      | true =>
        rw [List.filter_cons_of_pos (p := fun R : Ro => p R.id) hp, List.filter_cons_of_pos (p := fun s : St => p s.router) (by rw [← he]; exact hp)]
        simp only [eachR, Bool.and_eq_true, List.length_cons, i2, and_true]
        exact ⟨h.1, i1⟩
/-- the parts about a place -/
theorem pos_parts : ∀ (L : List Ro) (r : Int), UpR L → L.take (posN L r) = L.filter (fun R => decide (R.id < r)) ∧ L.drop (if isN L r then posN L r + 1 else posN L r) = L.filter (fun R => decide (r < R.id)) ∧ (isN L r = true → wasN L r ∈ L ∧ (wasN L r).id = r) ∧ (isN L r = false → ∀ R ∈ L, R.id ≠ r) := by
  intro L
  induction L with
  | nil => intro r _; exact ⟨rfl, rfl, fun h => by simp [isN] at h, fun _ R hR => by cases hR⟩
  | cons R L ih =>
    intro r hu
    have hp := List.pairwise_cons.1 hu
    by_cases hr : r ≤ R.id
    · have hpos : posN (R :: L) r = 0 := by unfold posN; rw [List.findIdx_cons]; simp [hr]
      have hall : ∀ x ∈ L, r < x.id := fun x hx => by have := hp.1 x hx; omega
      have hf : L.filter (fun R => decide (r < R.id)) = L := List.filter_eq_self.2 (fun x hx => decide_eq_true (hall x hx))
      have hf2 : L.filter (fun R => decide (R.id < r)) = [] := List.filter_eq_nil_iff.2 (fun x hx => by have := hall x hx; simp; omega)
      have hi : isN (R :: L) r = decide (R.id = r) := by unfold isN; rw [hpos]; rfl
      refine ⟨?_, ?_, fun h => ?_, fun h x hx => ?_⟩
      · rw [hpos, List.take_zero, List.filter_cons_of_neg (by simp; omega), hf2]
      · rw [hpos, hi]
        by_cases he : R.id = r
        · rw [decide_eq_true he, if_pos rfl, List.filter_cons_of_neg (by simp; omega), hf]
          rfl
        · rw [decide_eq_false he, if_neg (by decide), List.filter_cons_of_pos (by simp; omega), hf]
          rfl
      · unfold wasN
        rw [h, if_pos rfl, hpos]
        rw [hi, decide_eq_true_eq] at h
        exact ⟨List.mem_cons_self, h⟩
      · rw [hi, decide_eq_false_iff_not] at h
        rcases List.mem_cons.1 hx with rfl | hx
        · exact h
        · have := hall x hx; omega
    · obtain ⟨i1, i2, i3, i4⟩ := ih r hp.2
      have hpos : posN (R :: L) r = posN L r + 1 := by unfold posN; rw [List.findIdx_cons]; simp [hr]
      have hi : isN (R :: L) r = isN L r := by unfold isN; rw [hpos]; rfl
      have hw : wasN (R :: L) r = wasN L r := by unfold wasN; rw [hi, hpos]; rfl
      refine ⟨?_, ?_, fun h => ?_, fun h x hx => ?_⟩
      · rw [hpos, List.take_succ_cons, i1, List.filter_cons_of_pos (by simp; omega)]
      · rw [hpos, hi, List.filter_cons_of_neg (by simp; omega), ← i2]
        cases isN L r <;> rfl
      · rw [hi] at h
        rw [hw]
        exact ⟨List.mem_cons_of_mem _ (i3 h).1, (i3 h).2⟩
      · rw [hi] at h
        rcases List.mem_cons.1 hx with rfl | hx
        · omega
        · exact i4 h x hx
theorem ros_ok {n : NetT} (h : okN n = true) : ∀ R ∈ n.ros, okRo R = true := fun R hR => by
  obtain ⟨h1, h2, h3, h4⟩ := okN_parts h
  obtain ⟨j, hj, rfl⟩ := List.getElem_of_mem hR
  exact (fitsR_ok ((eachR_iff _ _ h2).1 h3 j hj (by omega))).1
theorem ros_up {n : NetT} (h : okN n = true) : UpR n.ros := by
  obtain ⟨h1, h2, h3, h4⟩ := okN_parts h
  exact each_up h3 h2 ((Ord.okL_iff _).1 h1).2.2
theorem ros_len {n : NetT} (h : okN n = true) : n.ros.length ≤ 64 := by
  obtain ⟨h1, h2, h3, h4⟩ := okN_parts h
  have := ((Ord.okL_iff _).1 h1).1
  omega
theorem make_ok {id : Int} (h : okId id = true) : okRo (makeRo id).1 = true ∧ (makeRo id).1.id = id ∧ (makeRo id).1.up = false := by
  unfold makeRo
  rw [h]
  refine ⟨?_, rfl, rfl⟩
  show okRo ⟨id, false, [], []⟩ = true
  unfold okRo
  rw [h]
  rfl
theorem was_ok {n : NetT} (h : okN n = true) {r : Int} (hr : okId r = true) : okRo (wasN n.ros r) = true ∧ (wasN n.ros r).id = r := by
  obtain ⟨_, _, p3, p4⟩ := pos_parts n.ros r (ros_up h)
  cases hi : isN n.ros r with
  | true => exact ⟨ros_ok h _ (p3 hi).1, (p3 hi).2⟩
  | false =>
    have : wasN n.ros r = (makeRo r).1 := by unfold wasN; rw [hi]; rfl
    rw [this]
    exact ⟨(make_ok hr).1, (make_ok hr).2.1⟩
theorem ev_id {e : Ev} (h : okE e = true) : okId e.router = true := (okId_iff _).2 (okE_parts h).2.1
theorem put_parts {n : NetT} (h : okN n = true) (r : Int) (Q : Ro) : putN n.ros r Q = n.ros.filter (fun R => decide (R.id < r)) ++ ([Q] ++ n.ros.filter (fun R => decide (r < R.id))) := by
  obtain ⟨p1, p2, _, _⟩ := pos_parts n.ros r (ros_up h)
  unfold putN
  rw [p1, p2]
theorem next_okE {l : List St} {e : Ev} {h : Int} (hy : (nextL l e h).2 = 0) : okL l = true ∧ okE e = true ∧ -1 ≤ h ∧ h ≤ 1099511627776 := Ord.ask_ok (Ord.next_zero hy).1
theorem take_zero {n : NetT} {e : Ev} {h : Int} (hz : (takeN n e h).2 = 0) : (nextL n.seats e h).2 = 0 ∧ (applyRo (wasN n.ros e.router) e).2 = 0 ∧ sizeN (putN n.ros e.router (applyRo (wasN n.ros e.router) e).1) ≤ 1024 ∧ takeN n e h = (⟨(nextL n.seats e h).1, putN n.ros e.router (applyRo (wasN n.ros e.router) e).1⟩, 0) := by
  unfold takeN at hz ⊢
  by_cases h1 : (nextL n.seats e h).2 = 0
  · rw [if_pos h1] at hz ⊢
    by_cases h2 : (applyRo (wasN n.ros e.router) e).2 = 0
    · rw [if_pos h2] at hz ⊢
      by_cases h3 : 1024 < sizeN (putN n.ros e.router (applyRo (wasN n.ros e.router) e).1)
      · rw [if_pos h3] at hz; simp at hz
      · rw [if_neg h3]; exact ⟨h1, h2, by omega, rfl⟩
    · rw [if_neg h2] at hz; exact absurd hz h2
  · rw [if_neg h1] at hz; exact absurd hz h1
theorem put_ok {n : NetT} (h : okN n = true) {r : Int} {Q : Ro} (hQ : okRo Q = true) : (putN n.ros r Q).length ≤ 65 ∧ ∀ R ∈ putN n.ros r Q, okRo R = true := by
  rw [put_parts h]
  have h1 := List.length_filter_le (fun R : Ro => decide (R.id < r)) n.ros
  refine ⟨?_, fun R hR => ?_⟩
  · have hl := ros_len h
    have key : ∀ l : List Ro, (l.filter (fun R => decide (R.id < r))).length + (l.filter (fun R => decide (r < R.id))).length ≤ l.length := by
      intro l
      induction l with
      | nil => exact Nat.le_refl _
      | cons x l ih =>
        rcases Int.lt_trichotomy x.id r with hx | hx | hx
        · rw [List.filter_cons_of_pos (by simpa using hx), List.filter_cons_of_neg (by simp; omega)]; simp only [List.length_cons]; omega
        · rw [List.filter_cons_of_neg (by simp; omega), List.filter_cons_of_neg (by simp; omega)]; simp only [List.length_cons]; omega
        · rw [List.filter_cons_of_neg (by simp; omega), List.filter_cons_of_pos (by simpa using hx)]; simp only [List.length_cons]; omega
    have := key n.ros
    simp only [List.length_append, List.length_cons, List.length_nil]
    omega
  · simp only [List.mem_append, List.mem_singleton] at hR
    rcases hR with hR | rfl | hR
    · exact ros_ok h _ (List.mem_filter.1 hR).1
    · exact hQ
    · exact ros_ok h _ (List.mem_filter.1 hR).1
theorem next_is {l : List St} {e : Ev} {h : Int} (hy : (nextL l e h).2 = 0) : (nextL l e h).1 = seatedL l ⟨e.router, e.seq, e.time, decide (e.kind ≠ 2)⟩ := by
  obtain ⟨h1, h2⟩ := Ord.next_zero hy
  unfold nextL
  rw [if_pos h1, if_pos h2]
theorem take_right {n : NetT} {e : Ev} {h : Int} (hok : okN n = true) (hz : (takeN n e h).2 = 0) : okN (takeN n e h).1 = true := by
  obtain ⟨t1, t2, t3, t4⟩ := take_zero hz
  rw [t4]
  obtain ⟨h1, h2, h3, h4⟩ := okN_parts hok
  obtain ⟨n1, n2, n3, n4⟩ := next_okE t1
  have hkeep := (Ord.taken t1).1
  have hw := was_ok hok (ev_id n2)
  have hQ : okRo (applyRo (wasN n.ros e.router) e).1 = true ∧ (applyRo (wasN n.ros e.router) e).1.id = e.router ∧ (applyRo (wasN n.ros e.router) e).1.up = !decide (e.kind = 2) := by
    rcases apply_cases (wasN n.ros e.router) e with g | g | g
    · exact ⟨g.2.2.2.2.2.1, by rw [g.2.2.2.2.2.2.1]; exact hw.2, g.2.2.2.2.2.2.2.1⟩
    · rw [g.1] at t2; exact absurd t2 (by decide)
    · exact absurd t2 g.1
  generalize (applyRo (wasN n.ros e.router) e).1 = Q at *
  have hs := next_is t1
  have f1 := each_filter (fun x => decide (x < e.router)) h3 h2
  have f2 := each_filter (fun x => decide (e.router < x)) h3 h2
  have hone : eachR [Q] [⟨e.router, e.seq, e.time, decide (e.kind ≠ 2)⟩] = true := by
    simp only [eachR, fitsR, hQ.1, hQ.2.1, hQ.2.2, Bool.and_true, Bool.true_and]
    by_cases hk : e.kind = 2 <;> simp [hk]
  have hE : eachR (putN n.ros e.router Q) (nextL n.seats e h).1 = true := by
    rw [put_parts hok, hs]
    exact each_app f1.1 f1.2 (each_app hone rfl f2.1)
  have hL : (putN n.ros e.router Q).length = (nextL n.seats e h).1.length := by
    rw [put_parts hok, hs]
    unfold seatedL Ord.ahead Ord.behind
    simp only [List.length_append, List.length_cons, List.length_nil]
    have := f1.2
    have := f2.2
    omega
  unfold okN
  simp only [Bool.and_eq_true, decide_eq_true_eq]
  exact ⟨hkeep, hL, hE, t3⟩
end Go.Proofs.Ytkjhnefbcnnjlaa.Nt
namespace Go.Proofs.Ytkjhnefbcnnjlaa.Nt
open Go.RowKit
open Go.Proofs.Ytkjhnefbcnnjlaa.Lk (HasLks.keep)
open Go.Proofs.Ytkjhnefbcnnjlaa.Tr (HasRts.keep)
open Go.Proofs.Ytkjhnefbcnnjlaa.Fib
open Go.Proofs.Ytkjhnefbcnnjlaa.Addr (RowAt below2 below_new RowAt.lt RowAt.cell RowAt.below RowAt.new RowAt.alloc cells2 cells4 Bl bl_ne wp_region_bl)
set_option maxHeartbeats 2000000 in
theorem is1_any (a : Int) (u : Bool) (o1 o2 : Option Addr) (n1 n2 c1 c2 : Nat) (g : Nat) (r : Int) (w : World) (hg : RowAt w g [.int .i64 r] 3) :
    Calls Try.prog 47 #[.agg #[.int .i64 a, .bool u, .slice o1 n1 c1, .slice o2 n2 c2], .pointer (some ⟨g, 0, none⟩)] w fun e w' => e = .returned (.bool (decide (r ≤ a))) ∧ Below w.heap.size w w' := by
  obtain ⟨X, hX⟩ : ∃ X, X = w.alloc (.cells #[.int .i64 a, .bool u, .slice o1 n1 c1, .slice o2 n2 c2] 37) := ⟨_, rfl⟩
  have hB : Below w.heap.size w X := by rw [hX]; exact below_new (Below.refl _ _) _
  have r0 : RowAt X w.heap.size [.int .i64 a, .bool u, .slice o1 n1 c1, .slice o2 n2 c2] 37 := by rw [hX]; exact RowAt.new _ _ _
  have r1 := RowAt.below hg hB
  obtain ⟨x0, x1, x2, x3, xf⟩ := cells4 r0
  have y0 : X.cell? ⟨g, 0, none⟩ = some (.int .i64 r) := r1.cell 0
  clear r0 r1 hg
  go_enter Try.func47, Try.ntmps47
  go_upto_region 1 with fail
  rw [← hX]
  clear hX
  go_wp2_with fail
  go_ret
  exact ⟨by first | rfl | simp, hB⟩
def idxR (l : List Ro) (r : Int) (k : Nat) : Int :=
  match (l.drop k).findIdx? (fun s => decide (r ≤ s.id)) with
  | some j => ((k + j : Nat) : Int)
  | none => -1
theorem idx_end (l : List Ro) (r : Int) (k : Nat) (h : l.length ≤ k) : idxR l r k = -1 := by unfold idxR; rw [List.drop_of_length_le h]; rfl
theorem idx_hit (l : List Ro) (r : Int) (k : Nat) (h : k < l.length) (hr : decide (r ≤ l[k].id) = true) : idxR l r k = (k : Int) := by
  unfold idxR
  rw [List.drop_eq_getElem_cons h, List.findIdx?_cons, hr]
  simp
theorem idx_miss (l : List Ro) (r : Int) (k : Nat) (h : k < l.length) (hr : decide (r ≤ l[k].id) = false) : idxR l r k = idxR l r (k + 1) := by
  unfold idxR
  rw [List.drop_eq_getElem_cons h, List.findIdx?_cons, hr]
  cases (l.drop (k + 1)).findIdx? (fun s => decide (r ≤ s.id)) with
  | none => simp
  | some j => simp; omega
set_option maxHeartbeats 4000000 in
set_option maxRecDepth 20000 in
theorem index_any (l : List Ro) (v : Value) (g : Nat) (r : Int) (w : World) (h : HasRos w v l) (hg : RowAt w g [.int .i64 r] 3) :
    Calls Try.prog 72 #[v, .func (.func 47) #[] #[.pointer (some ⟨g, 0, none⟩)]] w fun e w' => e = .returned (.int .i64 (idxR l r 0)) ∧ Below w.heap.size w w' := by
  obtain ⟨o, c, rfl, hc1, hc2⟩ := HasRos.slice h
  have HR : Hid (∀ wr : World, Below w.heap.size w wr → HasRos wr (.slice o l.length c) l ∧ RowAt wr g [.int .i64 r] 3) := fun wr hb => ⟨h.keep hb, RowAt.below hg hb⟩
  obtain ⟨n, hn⟩ : ∃ n, n = l.length := ⟨_, rfl⟩
  have HN : Hid (n = l.length) := hn
  rw [← hn] at HR hc1 ⊢
  have hni : (n : Int) ≤ 9223372036854775807 := by omega
  obtain ⟨R, hR⟩ : ∃ R, R = idxR l r 0 := ⟨_, rfl⟩
  have HD : Hid (R = idxR l r 0) := hR
  rw [← hR]
  clear h hg hn hR
  go_enter Try.func72, Try.ntmps72
  go_wp2_with fail
  go_loopw [8] (fun i wr => ∃ k : Nat, k ≤ n ∧ i = .int .i64 k ∧ Below w.heap.size w wr ∧ Hid (R = idxR l r k)) (fun i _ => n - (Go.RowKit.intOf i).toNat)
  case atStart => exact ⟨0, by omega, rfl, Below.refl _ _, HD⟩
  case round =>
    obtain ⟨k, hk, rfl, hB, HG⟩ := hrel
    obtain ⟨hh, hr⟩ := HR.out _ hB
    by_cases hlt : k < n
    · have hkz : k < l.length := by rw [← HN.out]; exact hlt
      obtain ⟨g1, i1, o1, c1, o2, c2, rfl, hg1, a0, a1, a2, a3, _, _⟩ := HasRos.cell hh k hkz
      have HB1 : Hid (decide (r ≤ l[k].id) = true → R = (k : Int)) := fun h => by rw [HG.out]; exact idx_hit l r k hkz h
      have HB2 : Hid (decide (r ≤ l[k].id) = false → R = idxR l r (k + 1)) := fun h => by rw [HG.out]; exact idx_miss l r k hkz h
      have hki : (k : Int) < (n : Int) := by omega
      generalize l[k].id = ra at a0 HB1 HB2
      generalize l[k].up = ru at a1
      generalize l[k].rts.length = q1 at a2
      generalize l[k].lks.length = q2 at a3
      have cr := is1_any ra ru o1 o2 q1 q2 c1 c2 g r wr hr
      generalize decide (r ≤ ra) = B at cr HB1 HB2
      clear HG hh hr hg1
      go_wp2_with fail
      go_at_call 47; refine cr.mono ?_; rintro e w1 ⟨rfl, hb1⟩
      have hW := below2 hB hb1
      cases B
      · have HS1 := HB2.out rfl
        clear HB1 HB2 a0 a1 a2 a3
        go_wp2_with fail
        go_roundw
        case rel => exact ⟨k + 1, by omega, by go_num, hW, HS1⟩
        case measure => simp [Go.RowKit.intOf]; omega
      · have HV : Hid (R = (k : Int)) := HB1.out rfl
        clear HB1 HB2 a0 a1 a2 a3
        go_wp2_with fail
        go_ret
        exact ⟨by rw [HV.out]; rfl, hW⟩
    · obtain rfl : k = n := by omega
      have HV : Hid (R = -1) := by show _ = _; rw [HG.out]; exact idx_end l r _ (by rw [← HN.out]; exact Nat.le_refl _)
      clear hh hr HG
      go_wp2
      go_ret
      exact ⟨by rw [HV.out]; rfl, hB⟩
theorem pos_le (l : List Ro) (r : Int) : posN l r ≤ l.length := List.findIdx_le_length
theorem idx_pos (l : List Ro) (r : Int) : (idxR l r 0 = -1 ∧ posN l r = l.length) ∨ (idxR l r 0 = (posN l r : Int) ∧ posN l r < l.length) := by
  unfold idxR posN
  rw [List.drop_zero]
  cases hf : l.findIdx? (fun s => decide (r ≤ s.id)) with
  | none =>
    refine .inl ⟨rfl, ?_⟩
    rw [List.findIdx?_eq_none_iff] at hf
    rw [List.findIdx_eq_length]
    exact fun x hx => hf x hx
  | some j =>
    rw [List.findIdx?_eq_some_iff_findIdx_eq] at hf
    refine .inr ⟨?_, by rw [hf.2]; exact hf.1⟩
    rw [hf.2]
    simp
set_option maxHeartbeats 4000000 in
set_option maxRecDepth 20000 in
theorem place_any (L : List Ro) (gf g : Nat) (s : Value) (lo : Option Addr) (ln lc : Nat) (r : Int) (w : World) (so : Option Addr) (sn sc : Nat) (hs : s = .slice so sn sc) (hf : RowAt w gf [s, .slice lo ln lc] 62) (hl : HasRos w (.slice lo ln lc) L) (el : Hid (ln = L.length)) (hg : RowAt w g [.int .i64 r] 3) :
    Calls Try.prog 46 #[.pointer (some ⟨gf, 0, none⟩), .func (.func 47) #[] #[.pointer (some ⟨g, 0, none⟩)]] w fun e w' => e = .returned (.int .i64 (posN L r : Int)) ∧ Below w.heap.size w w' := by
  subst hs
  have ci := index_any L _ g r w hl hg
  have HX : Hid ((idxR L r 0 = -1 ∧ posN L r = L.length) ∨ (idxR L r 0 = (posN L r : Int) ∧ posN L r < L.length)) := idx_pos L r
  generalize idxR L r 0 = z at ci HX
  generalize posN L r = p at HX ⊢
  have hlt := RowAt.lt hf
  obtain ⟨x0, x1, xf⟩ := cells2 hf
  rcases HX.out with ⟨h1, h2⟩ | ⟨h1, h2⟩
  · subst h1
    have HP : Hid (p = ln) := by show p = _; rw [h2, el.out]
    clear h2 HX
    go_enter Try.func46, Try.ntmps46
    go_wp2_with fail
    go_at_call 72; refine ci.mono ?_; rintro e w1 ⟨rfl, hb1⟩
    obtain ⟨x0, x1, xf⟩ := cells2 (RowAt.below hf hb1)
    have hlt1 : gf < w1.heap.size := Nat.lt_of_lt_of_le hlt hb1.size
    go_wp2_with fail
    go_ret
    exact ⟨by rw [HP.out]; rfl, hb1⟩
  · subst h1
    have hnn : ¬ ((p : Int) < 0) := by omega
    clear h2 HX
    go_enter Try.func46, Try.ntmps46
    go_wp2_with fail
    go_at_call 72; refine ci.mono ?_; rintro e w1 ⟨rfl, hb1⟩
    go_wp2_with fail
    go_ret
    exact ⟨rfl, hb1⟩
set_option maxHeartbeats 4000000 in
set_option maxRecDepth 20000 in
theorem find_any (L : List Ro) (gf : Nat) (so lo : Option Addr) (sn sc ln lc : Nat) (r : Int) (w : World) (hf : RowAt w gf [.slice so sn sc, .slice lo ln lc] 62) (hl : HasRos w (.slice lo ln lc) L) :
    Calls Try.prog 22 #[.pointer (some ⟨gf, 0, none⟩), .int .i64 r] w fun e w' => e = .returned (.tuple #[.int .i64 (posN L r : Int), .bool (isN L r)]) ∧ Below w.heap.size w w' := by
  obtain ⟨o', c', e', hc1, hc2⟩ := HasRos.slice hl
  injection e' with e1 e2 e3
  subst e1 e3
  have EL : Hid (ln = L.length) := e2
  obtain ⟨X, hX⟩ : ∃ X, X = w.alloc (.cells #[.int .i64 r] 3) := ⟨_, rfl⟩
  have hB : Below w.heap.size w X := by rw [hX]; exact below_new (Below.refl _ _) _
  have rr : RowAt X w.heap.size [.int .i64 r] 3 := by rw [hX]; exact RowAt.new _ _ _
  have rf := RowAt.below hf hB
  have hlX := hl.keep hB
  have cp := place_any L gf w.heap.size _ lo ln lc r X so sn sc rfl rf hlX EL rr
  have hpl := pos_le L r
  have hlt := RowAt.lt rf
  have HI : Hid (isN L r = match L[posN L r]? with | some R => decide (R.id = r) | none => false) := rfl
  generalize isN L r = I at HI ⊢
  generalize hp : posN L r = p at *
  clear hp e2 hl hf
  have hni : (ln : Int) ≤ 9223372036854775807 := by have := EL.out; omega
  go_enter Try.func22, Try.ntmps22
  go_upto_region 1 with fail
  rw [← hX]
  clear hX
  generalize w.heap.size = gr at rr cp ⊢
  obtain ⟨x0, x1, xf⟩ := cells2 rf
  go_wp2_with fail
  go_at_call 46; refine cp.mono ?_; rintro e w1 ⟨rfl, hb1⟩
  replace rf := RowAt.below rf hb1
  replace rr := RowAt.below rr hb1
  replace hlX := hlX.keep hb1
  replace hB := below2 hB hb1
  have hlt1 : gf < w1.heap.size := RowAt.lt rf
  clear x0 x1 xf cp hb1
  have v0 : ∀ q : Bl w1, q.W.cell? ⟨gf, 1, none⟩ = some (.slice lo ln lc) := fun q => (rf.below q.h).cell 1
  have v1 : ∀ q : Bl w1, q.W.cell? ⟨gr, 0, none⟩ = some (.int .i64 r) := fun q => (rr.below q.h).cell 0
  haveI := bl_ne w1
  have hls : ∀ q : Bl w1, gf < q.W.heap.size := fun q => RowAt.lt (rf.below q.h)
  by_cases hpn : p < ln
  · have hpz : p < L.length := by rw [← EL.out]; exact hpn
    obtain ⟨b1, i1, o1, c1, o2, c2, rfl, hbb, a0, _, _, _, _, _⟩ := HasRos.cell hlX p hpz
    have u0 : ∀ q : Bl w1, q.W.cell? ⟨b1, i1 + p * 4, none⟩ = some (.int .i64 L[p].id) := fun q => (q.h.cell (p := ⟨b1, i1 + p * 4, none⟩) hbb).trans a0
    have HI2 : Hid (I = decide (L[p].id = r)) := by show I = _; rw [HI.out, List.getElem?_eq_getElem hpz]
    generalize L[p].id = ii at *
    have hpi : (p : Int) < (ln : Int) := by omega
    have hp1 : decide ((p : Int) < (ln : Int)) = true := decide_eq_true hpi
    have hp2 : decide (p < ln) = true := decide_eq_true hpn
    have HE : Hid ((ii == r) = decide (ii = r)) := by show _ = _; rw [Bool.beq_eq_decide_eq]
    generalize hiq : (ii == r) = E at HE
    clear HI a0 hbb
    go_wp2_with fail
    refine wp_region_bl (by kernel_rfl) (by kernel_rfl) ?_
    repeat (go_big_quiet_step (fail))
    refine wpQuiet_nil ?_
    intro wq hw'
    obtain ⟨⟨wz, hq⟩, hw2⟩ := hw'
    subst hw2
    have hW := below2 hB hq
    go_wp2_with fail
    go_ret2
    exact ⟨by rw [HI2.out, ← HE.out]; first | rfl | simp [hiq], hW⟩
  · have hpe : p = ln := by have := EL.out; omega
    have HI2 : Hid (I = false) := by show I = _; rw [HI.out, List.getElem?_eq_none (by rw [← EL.out]; omega)]
    have hp1 : decide ((p : Int) < (ln : Int)) = false := decide_eq_false (by omega)
    have hp2 : decide (p < ln) = false := decide_eq_false hpn
    clear HI hpe
    go_wp2_with fail
    refine wp_region_bl (by kernel_rfl) (by kernel_rfl) ?_
    repeat (go_big_quiet_step (fail))
    refine wpQuiet_nil ?_
    intro wq hw'
    obtain ⟨⟨wz, hq⟩, hw2⟩ := hw'
    subst hw2
    have hW := below2 hB hq
    go_wp2_with fail
    go_ret2
    exact ⟨by rw [HI2.out]; rfl, hW⟩
end Go.Proofs.Ytkjhnefbcnnjlaa.Nt
