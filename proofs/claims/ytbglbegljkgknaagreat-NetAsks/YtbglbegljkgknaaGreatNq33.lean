/- What follows of routers to which events happen, plain. -/
import Derived.Test.YtbglbegljkgknaaGreatNq26
import Derived.Test.YtbglbegljkgknaaGreatNq32
set_option linter.unusedVariables false
namespace Go.Proofs.YtbglbegljkgknaaGreat.Fib
open Go.Proofs.YtbglbegljkgknaaGreat.Addr (Pf okP rightB hiN loN)
open Go.Proofs.YtbglbegljkgknaaGreat.Msg (Ev Ac okE FitE okA headB partsB unN zeroE zeroPf zeroA eqE_iff)
open Go.Proofs.YtbglbegljkgknaaGreat.Lk (Lk okL okK FitL delL others)
open Go.Proofs.YtbglbegljkgknaaGreat.Tr (Rt okT okR FitR putT delT othersT insT longT zeroR)
theorem okE_parts {e : Ev} (h : okE e = true) : (1 ≤ e.kind ∧ e.kind ≤ 6) ∧ (0 ≤ e.router ∧ e.router ≤ 1048576) ∧ okP e.pf = true ∧ (0 ≤ e.iface ∧ e.iface ≤ 65536) ∧ (0 ≤ e.peer ∧ e.peer ≤ 1048576) ∧ (e.kind = 3 → okA e.act = true) := by
  unfold okE headB partsB at h
  simp only [Bool.and_eq_true, decide_eq_true_eq, Bool.or_eq_true, and_assoc] at h
  obtain ⟨h1, h2, h3, h4, h5, h6, h7, h8, h9, h10, h11, h12, h13, h14, h15⟩ := h
  refine ⟨⟨h1, h2⟩, ⟨h3, h4⟩, h9, ⟨h10, h11⟩, ⟨h12, h13⟩, fun hk => ?_⟩
  rcases h14 with h | h
  · exact absurd hk h
  · exact h
theorem okE_of {e : Ev} (h1 : headB e = true) (h2 : partsB e = true) (h3 : unN e = zeroE) : okE e = true := by
  unfold okE
  rw [h1, h2, (eqE_iff _ _).2 h3]
  rfl
theorem okId_iff (i : Int) : okId i = true ↔ 0 ≤ i ∧ i ≤ 1048576 := by unfold okId; simp
theorem zero_ok : okP zeroPf = true := by decide
theorem okE_plain {k : Nat} {id : Int} {s : Nat} (hk : k = 1 ∨ k = 2) (hs : s = 1 ∨ s = 2) (h : okId id = true) : okE ⟨k, id, s, 0, ⟨false, 0, 0⟩, ⟨0, 0⟩, 0, 0⟩ = true := by
  obtain ⟨h1, h2⟩ := (okId_iff id).1 h
  refine okE_of ?_ ?_ ?_
  · unfold headB
    simp only [Bool.and_eq_true, decide_eq_true_eq]
    omega
  · unfold partsB
    rw [show okP (⟨false, 0, 0⟩ : Pf) = true from zero_ok]
    simp only [Bool.and_eq_true, decide_eq_true_eq, Bool.or_eq_true, true_and]
    exact ⟨⟨by omega, by omega⟩, .inl (by omega)⟩
  · unfold unN
    simp only
    rw [if_neg (by omega), if_neg (by omega), if_neg (by omega), if_neg (by omega)]
    rfl
theorem okK_of {i p : Int} (h1 : 0 ≤ i ∧ i ≤ 65536) (h2 : 0 ≤ p ∧ p ≤ 1048576) : okK ⟨i, p⟩ = true := by
  unfold okK
  simp only [Bool.and_eq_true, decide_eq_true_eq]
  omega
theorem okR_of {p : Pf} {a : Ac} (h1 : okP p = true) (h2 : okA a = true) : okR ⟨p, a⟩ = true := by unfold okR; rw [h1, h2]; rfl
theorem mem_othersT {l : List Rt} {p : Pf} {z : Rt} : z ∈ othersT l p ↔ z ∈ l ∧ z.pf ≠ p := by
  unfold othersT
  rw [List.mem_filter]
  simp [Tr.ordP_eq]
theorem okT_others {l : List Rt} (h : okT l = true) (p : Pf) : okT (othersT l p) = true := by
  obtain ⟨h1, h2, h3⟩ := (Tr.okT_iff l).1 h
  exact (Tr.okT_iff _).2 ⟨Nat.le_trans (Tr.othersT_le l p) h1, fun x hx => h2 x (mem_othersT.1 hx).1, h3.sublist List.filter_sublist⟩
theorem okL_others {l : List Lk} (h : okL l = true) (i : Int) : okL (others l i) = true := by
  obtain ⟨h1, h2, h3⟩ := (Lk.okL_iff l).1 h
  exact (Lk.okL_iff _).2 ⟨Nat.le_trans (Lk.others_le l i) h1, fun x hx => h2 x ((Lk.mem_others l i x).1 hx).1, Lk.up_others h3 i⟩
theorem okRo_iff (R : Ro) : okRo R = true ↔ okId R.id = true ∧ okT R.rts = true ∧ okL R.lks = true ∧ (R.up = true ∨ (R.rts = [] ∧ R.lks = [])) := by
  unfold okRo
  simp only [Bool.and_eq_true, Bool.or_eq_true, decide_eq_true_eq, and_assoc]
  have : R.rts.length + R.lks.length = 0 ↔ R.rts = [] ∧ R.lks = [] := by
    rw [Nat.add_eq_zero_iff, List.length_eq_zero_iff, List.length_eq_zero_iff]
  rw [this]
/-- an event that happened, or did not: what there is then -/
theorem apply_right {R : Ro} {e : Ev} (hr : okRo R = true) (he : okE e = true) (hm : misRo R e = 0) :
    ((takeRo R e).2 = 0 ∧ okRo (takeRo R e).1 = true ∧ (takeRo R e).1.id = R.id ∧ (takeRo R e).1.up = !decide (e.kind = 2) ∧ (¬ (e.kind = 3 ∨ e.kind = 4 ∨ e.kind = 2) → (takeRo R e).1.rts = R.rts) ∧ (¬ (e.kind = 5 ∨ e.kind = 6 ∨ e.kind = 2) → (takeRo R e).1.lks = R.lks)) ∨ ((takeRo R e).2 = 8 ∧ (takeRo R e).1 = R) := by
  obtain ⟨r1, r2, r3, r4⟩ := (okRo_iff R).1 hr
  obtain ⟨e1, e2, e3, e4, e5, e6⟩ := okE_parts he
  have hrt : e.router = R.id := by
    unfold misRo at hm
    split at hm
    · assumption
    · cases hm
  have hst : decide (e.kind = 1) ≠ R.up := by
    unfold misRo at hm
    rw [if_pos hrt] at hm
    split at hm
    · cases hm
    · assumption
  obtain ⟨id, up, rts, lks⟩ := R
  simp only at r1 r2 r3 r4 hst
  have hup : e.kind ≠ 1 → up = true := fun h => by
    rw [decide_eq_false h] at hst
    cases up
    · exact absurd rfl hst
    · rfl
  unfold takeRo
  simp only
  by_cases k1 : e.kind = 1
  · rw [if_pos k1]
    refine .inl ⟨rfl, (okRo_iff _).2 ⟨r1, r2, r3, .inl rfl⟩, rfl, ?_, fun _ => rfl, fun _ => rfl⟩
    rw [decide_eq_false (by omega)]; rfl
  rw [if_neg k1]
  have hu := hup k1
  subst hu
  by_cases k2 : e.kind = 2
  · rw [if_pos k2]
    refine .inl ⟨rfl, (okRo_iff _).2 ⟨r1, rfl, rfl, .inr ⟨rfl, rfl⟩⟩, rfl, ?_, fun h => absurd (.inr (.inr k2)) h, fun h => absurd (.inr (.inr k2)) h⟩
    rw [decide_eq_true k2]; rfl
  rw [if_neg k2]
  have hd : (true : Bool) = !decide (e.kind = 2) := by rw [decide_eq_false k2]; rfl
  by_cases k3 : e.kind = 3
  · rw [if_pos k3]
    have hR := okR_of e3 (e6 k3)
    by_cases h0 : (putT rts ⟨e.pf, e.act⟩).2 = 0
    · obtain ⟨p1, p2, p3, p4⟩ := Tr.putT_ok h0
      refine .inl ⟨h0, (okRo_iff _).2 ⟨r1, ?_, r3, .inl rfl⟩, rfl, hd, fun h => absurd (.inl k3) h, fun _ => rfl⟩
      show okT (putT rts ⟨e.pf, e.act⟩).1 = true
      rw [p3]; exact p4
    · unfold putT at h0 ⊢
      rw [r2, hR] at h0 ⊢
      simp only [Bool.and_self, if_true] at h0 ⊢
      split at h0
      · rename_i h9
        rw [if_pos h9]
        exact .inr ⟨rfl, rfl⟩
      · exact absurd rfl h0
  rw [if_neg k3]
  by_cases k4 : e.kind = 4
  · rw [if_pos k4]
    have hD : (delT rts e.pf).1 = othersT rts e.pf := by unfold delT; rw [r2, e3]; rfl
    refine .inl ⟨rfl, (okRo_iff _).2 ⟨r1, ?_, r3, .inl rfl⟩, rfl, hd, fun h => absurd (.inr (.inl k4)) h, fun _ => rfl⟩
    show okT (delT rts e.pf).1 = true
    rw [hD]; exact okT_others r2 _
  rw [if_neg k4]
  by_cases k5 : e.kind = 5
  · rw [if_pos k5]
    have hK := okK_of e4 e5
    by_cases h0 : (Lk.putL lks ⟨e.iface, e.peer⟩).2 = 0
    · obtain ⟨p1, p2, p3, p4⟩ := Lk.put_ok h0
      refine .inl ⟨h0, (okRo_iff _).2 ⟨r1, r2, ?_, .inl rfl⟩, rfl, hd, fun _ => rfl, fun h => absurd (.inl k5) h⟩
      show okL (Lk.putL lks ⟨e.iface, e.peer⟩).1 = true
      rw [p4]; exact Lk.ok_ins p1 p2 p3
    · rcases Lk.put_not h0 with h1 | ⟨h1, h2⟩
      · exfalso
        unfold Lk.putL at h1
        rw [r3, hK] at h1
        simp only [Bool.and_self, if_true] at h1
        split at h1 <;> cases h1
      · refine .inr ⟨h1, ?_⟩
        rw [h2]
  rw [if_neg k5]
  have k6 : e.kind = 6 := by omega
  rw [if_pos k6]
  have hD : (delL lks e.iface).1 = others lks e.iface := by unfold delL; rw [r3]; rfl
  refine .inl ⟨rfl, (okRo_iff _).2 ⟨r1, r2, ?_, .inl rfl⟩, rfl, hd, fun _ => rfl, fun h => absurd (.inr (.inl k6)) h⟩
  show okL (delL lks e.iface).1 = true
  rw [hD]; exact okL_others r3 _
theorem apply_cases (R : Ro) (e : Ev) :
    ((applyRo R e).2 = 0 ∧ okRo R = true ∧ okE e = true ∧ misRo R e = 0 ∧ applyRo R e = takeRo R e ∧ okRo (applyRo R e).1 = true ∧ (applyRo R e).1.id = R.id ∧ (applyRo R e).1.up = !decide (e.kind = 2) ∧ (¬ (e.kind = 3 ∨ e.kind = 4 ∨ e.kind = 2) → (applyRo R e).1.rts = R.rts) ∧ (¬ (e.kind = 5 ∨ e.kind = 6 ∨ e.kind = 2) → (applyRo R e).1.lks = R.lks)) ∨ ((applyRo R e).2 = 2 ∧ (applyRo R e).1 = zeroRo) ∨ ((applyRo R e).2 ≠ 0 ∧ (applyRo R e).2 ≠ 2 ∧ (applyRo R e).1 = R ∧ okRo R = true) := by
  unfold applyRo
  cases h : okRo R && okE e with
  | false => exact .inr (.inl ⟨rfl, rfl⟩)
  | true =>
    rw [Bool.and_eq_true] at h
    simp only [if_true]
    by_cases hm : misRo R e = 0
    · rw [if_pos hm]
      rcases apply_right h.1 h.2 hm with h' | ⟨h1, h2⟩
      · exact .inl ⟨h'.1, h.1, h.2, hm, rfl, h'.2⟩
      · exact .inr (.inr ⟨by rw [h1]; decide, by rw [h1]; decide, h2, h.1⟩)
    · rw [if_neg hm]
      refine .inr (.inr ⟨hm, ?_, rfl, h.1⟩)
      show misRo R e ≠ 2
      unfold misRo
      (repeat' split) <;> decide
theorem fit_apply {R : Ro} {e : Ev} (hR : FitRo R) (he : FitE e) : FitRo (applyRo R e).1 := by
  have hz : FitRo zeroRo := ⟨by decide, (by intro x h; cases h), (by intro x h; cases h)⟩
  unfold applyRo
  split
  · split
    · unfold takeRo
      have h3 : FitR ⟨e.pf, e.act⟩ := ⟨⟨he.len, he.n⟩, he.act⟩
      have h5 : FitL ⟨e.iface, e.peer⟩ := ⟨he.iface, he.peer⟩
      by_cases k1 : e.kind = 1
      · rw [if_pos k1]; exact ⟨hR.id, hR.rts, hR.lks⟩
      rw [if_neg k1]
      by_cases k2 : e.kind = 2
      · rw [if_pos k2]; exact ⟨hR.id, (by intro x h; cases h), (by intro x h; cases h)⟩
      rw [if_neg k2]
      by_cases k3 : e.kind = 3
      · rw [if_pos k3]
        refine ⟨hR.id, fun x hx => ?_, hR.lks⟩
        change x ∈ (putT R.rts ⟨e.pf, e.act⟩).1 at hx
        unfold putT at hx
        split at hx
        · split at hx
          · exact hR.rts x hx
          · rcases Tr.insT_mem hx with rfl | hx
            · exact h3
            · exact hR.rts x hx
        · cases hx
      rw [if_neg k3]
      by_cases k4 : e.kind = 4
      · rw [if_pos k4]
        refine ⟨hR.id, fun x hx => ?_, hR.lks⟩
        change x ∈ (delT R.rts e.pf).1 at hx
        unfold delT at hx
        split at hx
        · exact hR.rts x (mem_othersT.1 hx).1
        · cases hx
      rw [if_neg k4]
      by_cases k5 : e.kind = 5
      · rw [if_pos k5]
        refine ⟨hR.id, hR.rts, fun x hx => ?_⟩
        change x ∈ (Lk.putL R.lks ⟨e.iface, e.peer⟩).1 at hx
        unfold Lk.putL at hx
        split at hx
        · split at hx
          · exact hR.lks x ((Lk.mem_others _ _ _).1 hx).1
          · rcases (Lk.mem_insL _ _ _).1 hx with rfl | hx
            · exact h5
            · exact hR.lks x hx.1
        · cases hx
      rw [if_neg k5]
      by_cases k6 : e.kind = 6
      · rw [if_pos k6]
        refine ⟨hR.id, hR.rts, fun x hx => ?_⟩
        change x ∈ (delL R.lks e.iface).1 at hx
        unfold delL at hx
        split at hx
        · exact hR.lks x ((Lk.mem_others _ _ _).1 hx).1
        · cases hx
      rw [if_neg k6]
      exact hR
    · exact hR
  · exact hz
theorem hop_none {R : Ro} (h : okRo R = true) (hr : R.rts = []) (six : Bool) (a : Nat) : hopRo R six a = ((0, 0), if rightB six a then 0 else 2) := by
  unfold hopRo
  rw [h]
  cases rightB six a
  · rfl
  · simp only [Bool.and_self, if_true]
    have : (longT R.rts six a).1.act.k = 0 := by
      rw [hr]
      unfold longT
      split <;> rfl
    unfold doesRo
    rw [this]
    rfl
def evP (k : Nat) (id : Int) (s : Nat) : Ev := ⟨k, id, s, 0, ⟨false, 0, 0⟩, ⟨0, 0⟩, 0, 0⟩
theorem ended {R : Ro} (h : (applyRo R (evP 2 R.id 1)).2 = 0) (six : Bool) (a : Nat) :
    (applyRo (applyRo R (evP 2 R.id 1)).1 (evP 1 R.id 2)).2 = 0 ∧ (applyRo (applyRo R (evP 2 R.id 1)).1 (evP 1 R.id 2)).1.up = true ∧ (hopRo (applyRo R (evP 2 R.id 1)).1 six a).2 = (hopRo (applyRo (applyRo R (evP 2 R.id 1)).1 (evP 1 R.id 2)).1 six a).2 ∧ (hopRo (applyRo R (evP 2 R.id 1)).1 six a).1 = (0, 0) ∧ (hopRo (applyRo (applyRo R (evP 2 R.id 1)).1 (evP 1 R.id 2)).1 six a).1 = (0, 0) := by
  rcases apply_cases R (evP 2 R.id 1) with ⟨_, h1, h2, h3, h4, h5, _⟩ | ⟨h1, _⟩ | ⟨h1, _⟩
  · have e1 : applyRo R (evP 2 R.id 1) = (⟨R.id, false, [], []⟩, 0) := by rw [h4]; rfl
    obtain ⟨r1, _⟩ := (okRo_iff R).1 h1
    have ok1 : okRo ⟨R.id, false, [], []⟩ = true := (okRo_iff _).2 ⟨r1, rfl, rfl, .inr ⟨rfl, rfl⟩⟩
    have ok2 : okRo ⟨R.id, true, [], []⟩ = true := (okRo_iff _).2 ⟨r1, rfl, rfl, .inl rfl⟩
    have e2 : applyRo ⟨R.id, false, [], []⟩ (evP 1 R.id 2) = (⟨R.id, true, [], []⟩, 0) := by
      unfold applyRo
      rw [ok1, show okE (evP 1 R.id 2) = true from okE_plain (.inl rfl) (.inr rfl) r1]
      simp only [Bool.and_self, if_true]
      have hm : misRo ⟨R.id, false, [], []⟩ (evP 1 R.id 2) = 0 := by
        unfold misRo evP
        simp
      rw [if_pos hm]
      rfl
    rw [e1]
    simp only
    rw [e2]
    simp only
    rw [hop_none ok1 rfl, hop_none ok2 rfl]
    exact ⟨trivial, trivial, rfl, rfl, rfl⟩
  · rw [h1] at h; cases h
  · exact absurd h h1
theorem back_route {R : Ro} {p : Pf} {act : Ac} (hn : ∀ y ∈ R.rts, y.pf ≠ p) (h : (applyRo R ⟨3, R.id, 1, 0, p, act, 0, 0⟩).2 = 0) :
    applyRo (applyRo R ⟨3, R.id, 1, 0, p, act, 0, 0⟩).1 ⟨4, R.id, 2, 0, p, ⟨0, 0⟩, 0, 0⟩ = (R, 0) := by
  rcases apply_cases R ⟨3, R.id, 1, 0, p, act, 0, 0⟩ with ⟨_, h1, h2, h3, h4, h5, _⟩ | ⟨h1, _⟩ | ⟨h1, _⟩
  · obtain ⟨r1, r2, r3, r4⟩ := (okRo_iff R).1 h1
    obtain ⟨e1, e2, e3, e4, e5, e6⟩ := okE_parts h2
    have hT : takeRo R ⟨3, R.id, 1, 0, p, act, 0, 0⟩ = (⟨R.id, R.up, (putT R.rts ⟨p, act⟩).1, R.lks⟩, (putT R.rts ⟨p, act⟩).2) := rfl
    rw [h4] at h h5 ⊢
    rw [hT] at h h5 ⊢
    simp only at h h5 ⊢
    obtain ⟨p1, p2, p3, p4⟩ := Tr.putT_ok h
    have hup : R.up = true := by
      unfold misRo at h3
      simp only [if_true] at h3
      cases hu : R.up
      · rw [hu] at h3; simp at h3
      · rfl
    have hok : okE ⟨4, R.id, 2, 0, p, ⟨0, 0⟩, 0, 0⟩ = true := by
      obtain ⟨i1, i2⟩ := (okId_iff _).1 r1
      refine okE_of ?_ ?_ ?_
      · unfold headB
        simp only [Bool.and_eq_true, decide_eq_true_eq]
        omega
      · unfold partsB
        rw [show okP p = true from e3]
        simp
      · rfl
    unfold applyRo
    rw [h5, hok]
    simp only [Bool.and_self, if_true]
    have hm : misRo ⟨R.id, R.up, (putT R.rts ⟨p, act⟩).1, R.lks⟩ ⟨4, R.id, 2, 0, p, ⟨0, 0⟩, 0, 0⟩ = 0 := by
      unfold misRo
      rw [hup]
      simp
    rw [if_pos hm]
    have hD : (delT (insT R.rts ⟨p, act⟩) p).1 = R.rts := by
      unfold delT
      rw [p4, show okP p = true from e3]
      simp only [Bool.and_self, if_true]
      have ho : othersT R.rts p = R.rts := Tr.filt_all (fun x hx => by simp [Tr.ordP_eq]; exact hn x hx)
      have ha : Tr.aheadT R.rts p ++ Tr.behindT R.rts p = R.rts := by
        have hlen := Tr.othersT_len R.rts p
        rw [ho] at hlen
        have hu := ((Tr.okT_iff _).1 r2).2.2
        clear hlen ho
        generalize R.rts = l at hn hu
        unfold Tr.aheadT Tr.behindT
        induction l with
        | nil => rfl
        | cons x l ih =>
          have hx := hn x List.mem_cons_self
          have hc := List.pairwise_cons.1 hu
          have ih := ih (fun y hy => hn y (List.mem_cons_of_mem _ hy)) hc.2
          rcases Int.lt_trichotomy (Tr.ordP x.pf p) 0 with h | h | h
          · rw [List.filter_cons_of_pos (by simp; omega), List.filter_cons_of_neg (by simp; omega), List.cons_append, ih]
          · exact absurd ((Tr.ordP_eq _ _).1 h) hx
          · rw [List.filter_cons_of_neg (by simp; omega), List.filter_cons_of_pos (by simp; omega)]
            have hall : ∀ y ∈ l, 0 < Tr.ordP y.pf p := fun y hy => (Tr.ordP_gt _ _).2 (Tr.ltP_trans ((Tr.ordP_gt _ _).1 h) (hc.1 y hy))
            rw [Tr.filt_none (fun y hy => by have := hall y hy; simp; omega), Tr.filt_all (fun y hy => by have := hall y hy; simp; omega)]
            rfl
      unfold insT othersT
      rw [List.filter_append, List.filter_append, Tr.filt_all (l := Tr.aheadT R.rts _) (fun x hx => by
        have := (List.mem_filter.1 hx).1
        simp [Tr.ordP_eq]; exact hn x this), Tr.filt_all (l := Tr.behindT R.rts _) (fun x hx => by
        have := (List.mem_filter.1 hx).1
        simp [Tr.ordP_eq]; exact hn x this), List.filter_cons_of_neg (by simp [Tr.ordP_eq])]
      exact ha
    have hT2 : takeRo ⟨R.id, R.up, (putT R.rts ⟨p, act⟩).1, R.lks⟩ ⟨4, R.id, 2, 0, p, ⟨0, 0⟩, 0, 0⟩ = (⟨R.id, R.up, (delT (putT R.rts ⟨p, act⟩).1 p).1, R.lks⟩, 0) := rfl
    rw [hT2, p3, hD]
  · rw [h1] at h; cases h
  · exact absurd h h1
theorem back_link {R : Ro} {x : Lk} (hn : ∀ y ∈ R.lks, y.iface ≠ x.iface) (h : (applyRo R ⟨5, R.id, 1, 0, ⟨false, 0, 0⟩, ⟨0, 0⟩, x.iface, x.peer⟩).2 = 0) :
    applyRo (applyRo R ⟨5, R.id, 1, 0, ⟨false, 0, 0⟩, ⟨0, 0⟩, x.iface, x.peer⟩).1 ⟨6, R.id, 2, 0, ⟨false, 0, 0⟩, ⟨0, 0⟩, x.iface, 0⟩ = (R, 0) := by
  rcases apply_cases R ⟨5, R.id, 1, 0, ⟨false, 0, 0⟩, ⟨0, 0⟩, x.iface, x.peer⟩ with ⟨_, h1, h2, h3, h4, h5, _⟩ | ⟨h1, _⟩ | ⟨h1, _⟩
  · obtain ⟨r1, r2, r3, r4⟩ := (okRo_iff R).1 h1
    obtain ⟨e1, e2, e3, e4, e5, e6⟩ := okE_parts h2
    have hT : takeRo R ⟨5, R.id, 1, 0, ⟨false, 0, 0⟩, ⟨0, 0⟩, x.iface, x.peer⟩ = (⟨R.id, R.up, R.rts, (Lk.putL R.lks x).1⟩, (Lk.putL R.lks x).2) := rfl
    rw [h4] at h h5 ⊢
    rw [hT] at h h5 ⊢
    simp only at h h5 ⊢
    obtain ⟨p1, p2, p3, p4⟩ := Lk.put_ok h
    have hup : R.up = true := by
      unfold misRo at h3
      simp only [if_true] at h3
      cases hu : R.up
      · rw [hu] at h3; simp at h3
      · rfl
    have hok : okE ⟨6, R.id, 2, 0, ⟨false, 0, 0⟩, ⟨0, 0⟩, x.iface, 0⟩ = true := by
      obtain ⟨i1, i2⟩ := (okId_iff _).1 r1
      simp only at e4
      refine okE_of ?_ ?_ ?_
      · unfold headB
        simp only [Bool.and_eq_true, decide_eq_true_eq]
        omega
      · unfold partsB
        rw [show okP (⟨false, 0, 0⟩ : Pf) = true from zero_ok]
        simp only [Bool.and_eq_true, decide_eq_true_eq, Bool.or_eq_true, true_and]
        exact ⟨⟨by omega, by omega⟩, .inl (by omega)⟩
      · rfl
    unfold applyRo
    rw [h5, hok]
    simp only [Bool.and_self, if_true]
    have hm : misRo ⟨R.id, R.up, R.rts, (Lk.putL R.lks x).1⟩ ⟨6, R.id, 2, 0, ⟨false, 0, 0⟩, ⟨0, 0⟩, x.iface, 0⟩ = 0 := by
      unfold misRo
      rw [hup]
      simp
    rw [if_pos hm]
    have hT2 : takeRo ⟨R.id, R.up, R.rts, (Lk.putL R.lks x).1⟩ ⟨6, R.id, 2, 0, ⟨false, 0, 0⟩, ⟨0, 0⟩, x.iface, 0⟩ = (⟨R.id, R.up, R.rts, (delL (Lk.putL R.lks x).1 x.iface).1⟩, 0) := rfl
    rw [hT2, p4, Lk.del_ins p1 p2 p3]
    have ho : others R.lks x.iface = R.lks := List.filter_eq_self.2 (fun y hy => by simp; exact hn y hy)
    rw [ho]
  · rw [h1] at h; cases h
  · exact absurd h h1
end Go.Proofs.YtbglbegljkgknaaGreat.Fib
