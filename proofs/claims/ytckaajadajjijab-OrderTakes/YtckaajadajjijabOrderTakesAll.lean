/- For every seats, event and time: spoorlaw14.OrderTakes returns true, and changes nothing that was there. No condition. -/
import Derived.Test.YtckaajadajjijabOrdMay
import Derived.Test.YtckaajadajjijabMsgPut2
import Derived.Test.YtckaajadajjijabRows
import Derived.Test.YtckaajadajjijabMsgOpen
import Derived.Test.YtckaajadajjijabOrdEv
import Derived.Deep.Matrix
import Derived.Deep.Strs
import Derived.Deep.SlicePairs
import Derived.ProofKit
import Derived.OpenShut
import Derived.SizedLaws
import Derived.Test.YtckaajadajjijabOrdAll
import Derived.Test.YtckaajadajjijabOrdSame
import Derived.Test.YtckaajadajjijabMsgEv
import Derived.Test.YtckaajadajjijabOrdFind
import Derived.Test.YtckaajadajjijabMsgRX1
import Derived.Test.YtckaajadajjijabOrdNext
import Derived.ShutString
set_option linter.unusedVariables false
namespace Go.Proofs.Ytckaajadajjijab.Ord
open Go.Proofs.Ytckaajadajjijab.Msg (Ev okE okE_bd)

def Up (l : List St) : Prop := l.Pairwise (fun a b => a.router < b.router)
theorem rise_iff (l : List St) : ∀ p : Option Int, rise p l = true ↔ (∀ s ∈ l, okS s = true) ∧ Up l ∧ ∀ r, p = some r → ∀ s ∈ l, r < s.router := by
  induction l with
  | nil => intro p; simp [rise, Up]
  | cons x t ih =>
    intro p
    have hx := ih (some x.router)
    have key : rise p (x :: t) = true ↔ (okS x = true ∧ (∀ r, p = some r → r < x.router)) ∧ rise (some x.router) t = true := by
      cases p with
      | none => simp [rise]
      | some r => simp [rise]
    rw [key, hx]
    unfold Up
    rw [List.pairwise_cons]
    constructor
    · rintro ⟨⟨h1, h2⟩, h3, h4, h5⟩
      refine ⟨?_, ⟨fun s hs => h5 _ rfl s hs, h4⟩, ?_⟩
      · intro s hs
        rcases List.mem_cons.1 hs with rfl | hs
        · exact h1
        · exact h3 s hs
      · intro r hr s hs
        rcases List.mem_cons.1 hs with rfl | hs
        · exact h2 r hr
        · exact Int.lt_trans (h2 r hr) (h5 _ rfl s hs)
    · rintro ⟨h1, ⟨h2, h3⟩, h4⟩
      refine ⟨⟨h1 x (by simp), fun r hr => h4 r hr x (by simp)⟩, fun s hs => h1 s (by simp [hs]), h3, ?_⟩
      intro r hr s hs
      injection hr with hr
      subst hr
      exact h2 s hs
theorem okL_iff (l : List St) : okL l = true ↔ l.length ≤ 64 ∧ (∀ s ∈ l, okS s = true) ∧ Up l := by
  unfold okL
  rw [Bool.and_eq_true, decide_eq_true_eq, rise_iff]
  constructor
  · rintro ⟨h1, h2, h3, _⟩; exact ⟨h1, h2, h3⟩
  · rintro ⟨h1, h2, h3⟩; exact ⟨h1, h2, h3, fun r hr => by cases hr⟩
theorem find_mem {l : List St} (h : Up l) : ∀ {s : St}, s ∈ l → findL l s.router = some s := by
  induction l with
  | nil => intro s hs; cases hs
  | cons x t ih =>
    intro s hs
    unfold Up at h
    rw [List.pairwise_cons] at h
    unfold findL
    rw [List.find?_cons]
    rcases List.mem_cons.1 hs with rfl | hs
    · simp
    · have hlt := h.1 s hs
      have hd : decide (x.router = s.router) = false := decide_eq_false (by omega)
      rw [hd]
      exact ih h.2 hs
theorem find_has {l : List St} {r : Int} {s : St} (h : findL l r = some s) : s ∈ l ∧ s.router = r := by
  refine ⟨List.mem_of_find?_eq_some h, ?_⟩
  have := List.find?_some h
  simpa using this
theorem up_len {l : List St} (h : Up l) (r : Int) : l.length = (ahead l r).length + (behind l r).length + (if isIn l r = true then 1 else 0) := by
  induction l with
  | nil => rfl
  | cons x t ih =>
    have h0 := h
    unfold Up at h
    rw [List.pairwise_cons] at h
    have iht := ih h.2
    by_cases h1 : x.router < r
    · have e1 : ahead (x :: t) r = x :: ahead t r := by unfold ahead; rw [List.filter_cons_of_pos (by simpa using h1)]
      have e2 : behind (x :: t) r = behind t r := by unfold behind; rw [List.filter_cons_of_neg (by simp; omega)]
      have e3 : isIn (x :: t) r = isIn t r := by
        unfold isIn findL
        rw [List.find?_cons, decide_eq_false (by omega)]
      rw [e1, e2, e3, List.length_cons, List.length_cons, iht]
      omega
    · have e1 : ahead (x :: t) r = [] := by
        unfold ahead
        rw [List.filter_eq_nil_iff]
        intro s hs
        rcases List.mem_cons.1 hs with rfl | hs
        · simp; omega
        · have := h.1 s hs; simp; omega
      by_cases h2 : x.router = r
      · have e2 : behind (x :: t) r = t := by
          unfold behind
          rw [List.filter_cons_of_neg (by simp; omega), List.filter_eq_self]
          intro s hs
          have := h.1 s hs
          simp; omega
        have e3 : isIn (x :: t) r = true := by
          unfold isIn findL
          rw [List.find?_cons, decide_eq_true h2]
          rfl
        rw [e1, e2, e3, List.length_cons]
        simp
      · have e2 : behind (x :: t) r = x :: t := by
          unfold behind
          rw [List.filter_eq_self]
          intro s hs
          rcases List.mem_cons.1 hs with rfl | hs
          · simp; omega
          · have := h.1 s hs; simp; omega
        have e3 : isIn (x :: t) r = false := by
          unfold isIn findL
          rw [List.find?_eq_none.2]
          · rfl
          · intro s hs
            rcases List.mem_cons.1 hs with rfl | hs
            · simpa using h2
            · have := h.1 s hs; simp; omega
        rw [e1, e2, e3]
        simp
theorem up_seated {l : List St} (h : Up l) (s : St) : Up (seatedL l s) := by
  unfold seatedL Up
  rw [List.pairwise_append]
  refine ⟨List.Pairwise.filter _ h, ?_, ?_⟩
  · rw [List.pairwise_append]
    refine ⟨by simp, List.Pairwise.filter _ h, ?_⟩
    intro a ha b hb
    simp only [List.mem_cons, List.not_mem_nil, or_false] at ha
    subst ha
    unfold behind at hb
    simpa using (List.mem_filter.1 hb).2
  · intro a ha b hb
    have h1 : a.router < s.router := by unfold ahead at ha; simpa using (List.mem_filter.1 ha).2
    rcases List.mem_append.1 hb with hb | hb
    · simp only [List.mem_cons, List.not_mem_nil, or_false] at hb
      subst hb; exact h1
    · have : s.router < b.router := by unfold behind at hb; simpa using (List.mem_filter.1 hb).2
      omega
theorem mem_seated {l : List St} {s t : St} (ht : t ∈ l) (hne : t.router ≠ s.router) : t ∈ seatedL l s := by
  unfold seatedL ahead behind
  rw [List.mem_append, List.mem_append]
  by_cases h : t.router < s.router
  · exact .inl (List.mem_filter.2 ⟨ht, by simpa using h⟩)
  · exact .inr (.inr (List.mem_filter.2 ⟨ht, by simp; omega⟩))
theorem own_seated (l : List St) (s : St) : s ∈ seatedL l s := by
  unfold seatedL
  simp
def aloneL (l : List St) (r : Int) : List St := match findL l r with
  | some s => [s]
  | none => []
theorem next_may (l : List St) (e : Ev) (h : Int) : (nextL l e h).2 = mayL l e h := by
  unfold nextL mayL
  by_cases ha : askL l e h = 0
  · rw [if_pos ha, if_pos ha]
    by_cases hm : misL l e h = 0
    · rw [if_pos hm, hm]
    · rw [if_neg hm]
  · rw [if_neg ha, if_neg ha]
theorem alone_may {l : List St} (hok : okL l = true) (e : Ev) (h : Int) : mayL (aloneL l e.router) e h = mayL l e h ∨ mayL l e h = 8 := by
  have hkey : okL (aloneL l e.router) = true ∧ findL (aloneL l e.router) e.router = findL l e.router ∧ (aloneL l e.router).length ≤ 1 := by
    unfold aloneL
    cases hf : findL l e.router with
    | none => exact ⟨rfl, rfl, by simp⟩
    | some s =>
      obtain ⟨hm, hr⟩ := find_has hf
      refine ⟨?_, ?_, by simp⟩
      · rw [okL_iff]
        refine ⟨by simp, fun t ht => ?_, by unfold Up; simp⟩
        simp only [List.mem_cons, List.not_mem_nil, or_false] at ht
        subst ht
        exact ((okL_iff l).1 hok).2.1 _ hm
      · show List.find? _ [s] = _
        rw [List.find?_cons, decide_eq_true hr]
  obtain ⟨h1, h2, h3⟩ := hkey
  have e1 : askL (aloneL l e.router) e h = askL l e h := by unfold askL; rw [h1, hok]
  have e2 : isIn (aloneL l e.router) e.router = isIn l e.router := by unfold isIn; rw [h2]
  have e3 : seatOf (aloneL l e.router) e.router = seatOf l e.router := by unfold seatOf; rw [h2]
  unfold mayL
  rw [e1]
  by_cases ha : askL l e h = 0
  · rw [if_pos ha, if_pos ha]
    unfold misL
    rw [e2, e3]
    split
    · exact .inl rfl
    · split
      · exact .inl rfl
      · split
        · exact .inl rfl
        · split
          · exact .inl rfl
          · rw [if_neg (show ¬ (isIn l e.router = false ∧ (aloneL l e.router).length = 64) by omega)]
            split
            · exact .inr rfl
            · exact .inl rfl
  · rw [if_neg ha, if_neg ha]
    exact .inl rfl
/-- what is so where an event was taken -/
theorem taken {l : List St} {e : Ev} {h : Int} (hy : (nextL l e h).2 = 0) :
    okL (nextL l e h).1 = true ∧ (nextL l e h).1.length + (aloneL l e.router).length = l.length + 1 ∧
    (∀ s ∈ l, isIn (nextL l e h).1 s.router = true ∧ (s.router ≠ e.router → seatOf (nextL l e h).1 s.router = s)) := by
  have ha : askL l e h = 0 := by
    by_cases ha : askL l e h = 0
    · exact ha
    · unfold nextL at hy; rw [if_neg ha] at hy; exact absurd hy ha
  have hm : misL l e h = 0 := by
    by_cases hm : misL l e h = 0
    · exact hm
    · unfold nextL at hy; rw [if_pos ha, if_neg hm] at hy; exact absurd hy hm
  obtain ⟨hok, hoe, hh1, hh2⟩ := ask_ok ha
  obtain ⟨hl64, hall, hup⟩ := (okL_iff l).1 hok
  obtain ⟨⟨_, ⟨r1, r2⟩, ⟨q1, q2⟩, ⟨t1, t2⟩⟩, _, _⟩ := okE_bd hoe
  have e1 : (nextL l e h).1 = seatedL l ⟨e.router, e.seq, e.time, decide (e.kind ≠ 2)⟩ := by unfold nextL; rw [if_pos ha, if_pos hm]
  rw [e1]
  generalize hs : (⟨e.router, e.seq, e.time, decide (e.kind ≠ 2)⟩ : St) = s0
  have hr0 : s0.router = e.router := by rw [← hs]
  have hok0 : okS s0 = true := by
    rw [← hs]
    unfold okS
    simp only [Bool.and_eq_true, decide_eq_true_eq]
    omega
  have hu := up_seated hup s0
  have hlen := up_len hup e.router
  have hlm : (seatedL l s0).length = (ahead l e.router).length + (behind l e.router).length + 1 := by
    unfold seatedL
    rw [hr0]
    simp only [List.length_append, List.length_cons, List.length_nil]
    omega
  have hal : (aloneL l e.router).length = if isIn l e.router = true then 1 else 0 := by
    unfold aloneL isIn
    cases findL l e.router <;> rfl
  have hfull : ¬ (isIn l e.router = false ∧ l.length = 64) := by
    intro c
    unfold misL at hm
    split at hm
    · exact absurd hm (by decide)
    · split at hm
      · exact absurd hm (by decide)
      · split at hm
        · exact absurd hm (by decide)
        · split at hm
          · exact absurd hm (by decide)
          · exact absurd hm (by decide)
  refine ⟨?_, by rw [hlm, hal]; omega, ?_⟩
  · rw [okL_iff]
    refine ⟨?_, ?_, hu⟩
    · cases hi : isIn l e.router with
      | true => rw [hi] at hlen; simp only [if_true] at hlen; omega
      | false =>
        have : l.length ≠ 64 := fun c => hfull ⟨hi, c⟩
        rw [hi] at hlen
        simp only [Bool.false_eq_true, if_false] at hlen
        omega
    · intro s hs'
      unfold seatedL at hs'
      rcases List.mem_append.1 hs' with hs' | hs'
      · exact hall s ((List.mem_filter.1 hs').1)
      · rcases List.mem_append.1 hs' with hs' | hs'
        · simp only [List.mem_cons, List.not_mem_nil, or_false] at hs'
          subst hs'; exact hok0
        · exact hall s ((List.mem_filter.1 hs').1)
  · intro s hsl
    by_cases hne : s.router = e.router
    · refine ⟨?_, fun c => absurd hne c⟩
      have := find_mem hu (own_seated l s0)
      unfold isIn
      rw [hne, ← hr0, this]
      rfl
    · have := find_mem hu (mem_seated (s := s0) hsl (by rw [hr0]; exact hne))
      refine ⟨?_, fun _ => ?_⟩
      · unfold isIn; rw [this]; rfl
      · unfold seatOf; rw [this]; rfl
theorem next_keeps {l : List St} {e : Ev} {h : Int} (hok : okL l = true) (hy : (nextL l e h).2 ≠ 0) : (nextL l e h).2 = 2 ∨ (nextL l e h).2 = 1 ∨ (nextL l e h).1 = l := by
  unfold nextL at hy ⊢
  by_cases ha : askL l e h = 0
  · rw [if_pos ha] at hy ⊢
    by_cases hm : misL l e h = 0
    · rw [if_pos hm] at hy; exact absurd rfl hy
    · rw [if_neg hm]; exact .inr (.inr rfl)
  · rw [if_neg ha]
    unfold askL
    split
    · split
      · exact .inr (.inl rfl)
      · rename_i h1 h2
        exfalso
        apply ha
        unfold askL
        rw [if_pos h1, if_neg h2]
    · exact .inl rfl
theorem next_wrong {l : List St} {e : Ev} {h : Int} (hok : okL l = false) : (nextL l e h).2 = 2 := by
  have : askL l e h = 2 := by unfold askL; rw [hok]; rfl
  unfold nextL
  rw [if_neg (by rw [this]; decide), this]
end Go.Proofs.Ytckaajadajjijab.Ord
namespace Go.Proofs.Ytckaajadajjijab.Ord
open Go.ChangeShapes Go.WideShapes Go.ChangeAt Go.RowKit
open Go.Proofs.Ytckaajadajjijab.Msg (Ev evV evC FitE open_pf4 open_ac2 wfu8)
open Go.Proofs.Ytckaajadajjijab.Addr (wfi64 wfu64)
section
variable {H : Type} {enc : TypeId × Value → H} {W : World} {base : Nat} {spare : Nat → Bool} {held : Bool}
set_option maxRecDepth 100000 in
theorem open_ev12 {c0 c1 c2 c3 c4 c5 c6 c7 c8 c9 c10 c11 : Value} {fuel : Nat} {d : DataW H × List MemPlace} (hf : DataW.trod enc Try.prog W base spare held fuel 39 [c0, c1, c2, c3, c4, c5, c6, c7, c8, c9, c10, c11] = some d) : ∃ e : Ev, [c0, c1, c2, c3, c4, c5, c6, c7, c8, c9, c10, c11] = evC e ∧ FitE e := by
  obtain ⟨xs, n, _, _, hlen, hxl, hfs⟩ := DataW.trod_struct Try.underlying39 hf
  have g0 : DataW.trod enc Try.prog W base spare held n 29 ((([c0, c1, c2, c3, c4, c5, c6, c7, c8, c9, c10, c11] : List Value).drop 0).take (Try.prog.cellsOf 29)) = xs[0]? := hfs 0 _ rfl
  have g1 : DataW.trod enc Try.prog W base spare held n 3 ((([c0, c1, c2, c3, c4, c5, c6, c7, c8, c9, c10, c11] : List Value).drop 1).take (Try.prog.cellsOf 3)) = xs[1]? := hfs 1 _ rfl
  have g2 : DataW.trod enc Try.prog W base spare held n 30 ((([c0, c1, c2, c3, c4, c5, c6, c7, c8, c9, c10, c11] : List Value).drop 2).take (Try.prog.cellsOf 30)) = xs[2]? := hfs 2 _ rfl
  have g3 : DataW.trod enc Try.prog W base spare held n 2 ((([c0, c1, c2, c3, c4, c5, c6, c7, c8, c9, c10, c11] : List Value).drop 3).take (Try.prog.cellsOf 2)) = xs[3]? := hfs 3 _ rfl
  have g4 : DataW.trod enc Try.prog W base spare held n 34 ((([c0, c1, c2, c3, c4, c5, c6, c7, c8, c9, c10, c11] : List Value).drop 4).take (Try.prog.cellsOf 34)) = xs[4]? := hfs 4 _ rfl
  have g5 : DataW.trod enc Try.prog W base spare held n 37 ((([c0, c1, c2, c3, c4, c5, c6, c7, c8, c9, c10, c11] : List Value).drop 8).take (Try.prog.cellsOf 37)) = xs[5]? := hfs 5 _ rfl
  have g6 : DataW.trod enc Try.prog W base spare held n 3 ((([c0, c1, c2, c3, c4, c5, c6, c7, c8, c9, c10, c11] : List Value).drop 10).take (Try.prog.cellsOf 3)) = xs[6]? := hfs 6 _ rfl
  have g7 : DataW.trod enc Try.prog W base spare held n 3 ((([c0, c1, c2, c3, c4, c5, c6, c7, c8, c9, c10, c11] : List Value).drop 11).take (Try.prog.cellsOf 3)) = xs[7]? := hfs 7 _ rfl
  have hx8 : xs.length = 8 := hxl
  rw [List.getElem?_eq_getElem (by omega)] at g0 g1 g2 g3 g4 g5 g6 g7
  rw [show Try.prog.cellsOf 29 = 1 from by kernel_rfl] at g0
  rw [show Try.prog.cellsOf 3 = 1 from by kernel_rfl] at g1 g6 g7
  rw [show Try.prog.cellsOf 30 = 1 from by kernel_rfl] at g2
  rw [show Try.prog.cellsOf 2 = 1 from by kernel_rfl] at g3
  rw [show Try.prog.cellsOf 34 = 4 from by kernel_rfl] at g4
  rw [show Try.prog.cellsOf 37 = 2 from by kernel_rfl] at g5
  obtain ⟨k, e0, _, w0⟩ := DataW.trod_int Try.underlying29 g0
  obtain ⟨r1, e1, _, w1⟩ := DataW.trod_int Try.underlying3 g1
  obtain ⟨s2, e2, _, w2⟩ := DataW.trod_int Try.underlying30 g2
  obtain ⟨t3, e3, _, w3⟩ := DataW.trod_int Try.underlying2 g3
  obtain ⟨p, r4, r5, r6, r7, b1, b2⟩ := open_pf4 (s := c4) (c := c5) (f := c6) (o := c7) g4
  obtain ⟨a, r8, r9, fa⟩ := open_ac2 (x := c8) (y := c9) g5
  obtain ⟨i6, e6, _, w6⟩ := DataW.trod_int Try.underlying3 g6
  obtain ⟨j7, e7, _, w7⟩ := DataW.trod_int Try.underlying3 g7
  have e0' : c0 = .int .u8 k := by injection e0
  have e1' : c1 = .int .i64 r1 := by injection e1
  have e2' : c2 = .int .u64 s2 := by injection e2
  have e3' : c3 = .int .i64 t3 := by injection e3
  have e6' : c10 = .int .i64 i6 := by injection e6
  have e7' : c11 = .int .i64 j7 := by injection e7
  have q := wfu8 w0
  have q2 := wfu64 w2
  obtain ⟨kk, rfl⟩ := Int.eq_ofNat_of_zero_le q.1
  obtain ⟨ss, rfl⟩ := Int.eq_ofNat_of_zero_le q2.1
  subst e0' e1' e2' e3' e6' e7' r4 r5 r6 r7 r8 r9
  exact ⟨⟨kk, r1, ss, t3, p, a, i6, j7⟩, rfl, ⟨q.2, wfi64 w1, q2.2, wfi64 w3, b1, b2, fa, wfi64 w6, wfi64 w7⟩⟩
set_option maxRecDepth 100000 in
theorem open_st4 {v0 v1 v2 v3 : Value} {fuel : Nat} {d : DataW H × List MemPlace} (hf : DataW.trod enc Try.prog W base spare held fuel 48 [v0, v1, v2, v3] = some d) : ∃ s : St, [v0, v1, v2, v3] = stC s ∧ FitS s := by
  obtain ⟨xs, k, _, _, _, hxl, hfs⟩ := DataW.trod_struct Try.underlying48 hf
  have g0 : DataW.trod enc Try.prog W base spare held k 3 ((([v0, v1, v2, v3] : List Value).drop 0).take (Try.prog.cellsOf 3)) = xs[0]? := hfs 0 _ rfl
  have g1 : DataW.trod enc Try.prog W base spare held k 30 ((([v0, v1, v2, v3] : List Value).drop 1).take (Try.prog.cellsOf 30)) = xs[1]? := hfs 1 _ rfl
  have g2 : DataW.trod enc Try.prog W base spare held k 2 ((([v0, v1, v2, v3] : List Value).drop 2).take (Try.prog.cellsOf 2)) = xs[2]? := hfs 2 _ rfl
  have g3 : DataW.trod enc Try.prog W base spare held k 4 ((([v0, v1, v2, v3] : List Value).drop 3).take (Try.prog.cellsOf 4)) = xs[3]? := hfs 3 _ rfl
  have hx4 : xs.length = 4 := hxl
  rw [List.getElem?_eq_getElem (by omega)] at g0 g1 g2 g3
  rw [show Try.prog.cellsOf 3 = 1 from by kernel_rfl] at g0
  rw [show Try.prog.cellsOf 30 = 1 from by kernel_rfl] at g1
  rw [show Try.prog.cellsOf 2 = 1 from by kernel_rfl] at g2
  rw [show Try.prog.cellsOf 4 = 1 from by kernel_rfl] at g3
  obtain ⟨k0, e0, _, hw0⟩ := DataW.trod_int Try.underlying3 g0
  obtain ⟨k1, e1, _, hw1⟩ := DataW.trod_int Try.underlying30 g1
  obtain ⟨k2, e2, _, hw2⟩ := DataW.trod_int Try.underlying2 g2
  obtain ⟨k3, e3, _⟩ := DataW.trod_bool Try.underlying4 g3
  have f0 : v0 = .int .i64 k0 := by injection e0
  have f1 : v1 = .int .u64 k1 := by injection e1
  have f2 : v2 = .int .i64 k2 := by injection e2
  have f3 : v3 = .bool k3 := by injection e3
  have q := wfu64 hw1
  obtain ⟨kk, rfl⟩ := Int.eq_ofNat_of_zero_le q.1
  subst f0 f1 f2 f3
  exact ⟨⟨k0, kk, k2, k3⟩, rfl, ⟨wfi64 hw0, q.2, wfi64 hw2⟩⟩
theorem spot_of {W : World} {a : Addr} {v : Value} (h : W.cell? a = some v) : a.spot = none ∧ a.block < W.heap.size := by
  refine ⟨World.cell?_spot h, ?_⟩
  rcases Nat.lt_or_ge a.block W.heap.size with h' | h'
  · exact h'
  · simp [World.cell?, Array.getElem?_eq_none h'] at h
theorem row_of {a : Addr} {len cap sz : Nat} {cs : List Value} (hsz : 0 < sz) (hl : len ≤ cap) (hm : cap ≤ maxLen) (hlen : cs.length = len * sz) (h : ∀ j, j < len * sz → W.cell? (a.add j) = cs[j]?) : HasRow W (.slice (some a) len cap) sz len cs := by
  refine ⟨hlen, .inr ⟨a, cap, rfl, hl, by unfold maxLen at hm; exact hm, fun hn => ?_, h⟩⟩
  have h0 := h 0 (Nat.mul_pos hn hsz)
  rw [List.getElem?_eq_getElem (by rw [hlen]; exact Nat.mul_pos hn hsz)] at h0
  have := spot_of h0
  simpa [Addr.add] using this
/-- cells of a list of rows of m cells each -/
theorem flat_get {α : Type} (f : α → List Value) (m : Nat) (hm : 0 < m) (hf : ∀ x, (f x).length = m) : ∀ (l : List α) (j : Nat) (hj : j < l.length * m), (l.flatMap f)[j]? = (f (l[j / m]'(Nat.div_lt_of_lt_mul (by rw [Nat.mul_comm]; exact hj))))[j % m]? := by
  intro l
  induction l with
  | nil => intro j hj; simp at hj
  | cons x t ih =>
    intro j hj
    rw [List.flatMap_cons]
    by_cases h : j < m
    · rw [List.getElem?_append_left (by rw [hf]; exact h)]
      have e1 : j / m = 0 := Nat.div_eq_of_lt h
      have e2 : j % m = j := Nat.mod_eq_of_lt h
      simp only [e1, e2, List.getElem_cons_zero]
    · have h' : m ≤ j := by omega
      rw [List.getElem?_append_right (by rw [hf]; exact h'), hf]
      have hj2 : j - m < t.length * m := by rw [List.length_cons, Nat.add_mul, Nat.one_mul] at hj; omega
      rw [ih (j - m) hj2]
      have e1 : j / m = (j - m) / m + 1 := by rw [Nat.div_eq_sub_div hm h']
      have e2 : j % m = (j - m) % m := Nat.mod_eq_sub_mod h'
      simp only [e1, e2, List.getElem_cons_succ]
set_option maxRecDepth 100000 in
theorem open_seats {v : Value} {fuel : Nat} {x : DataW H × List MemPlace} (h : DataW.trod enc Try.prog W base spare held fuel 44 [v] = some x) : ∃ l : List St, HasSts W v l ∧ ∀ s ∈ l, FitS s := by
  rcases Go.Deep.open_slice Try.underlying44 h with ⟨hcs, _⟩ | ⟨a, l, c, m, n, D, Pl, hcs, _, hl, hm, hmm, _, hx⟩
  · injection hcs with e; subst e
    exact ⟨[], hasRow_nil _ _, by simp⟩
  · injection hcs with e; subst e
    have hlm : l ≤ m := by rw [hmm]; split <;> omega
    have hA : ∀ i, ∃ p : St, i < l → (∀ j, j < 4 → W.cell? (a.add (i * 4 + j)) = (stC p)[j]?) ∧ FitS p := fun i => by
      by_cases hi : i < l
      · obtain ⟨cs', h1, h2⟩ := hx i (by omega)
        rw [show Try.prog.cellsOf 48 = 4 from by kernel_rfl] at h1
        obtain ⟨_, hlen, hcell⟩ := World.cells?_some h1
        obtain ⟨v0, v1, v2, v3, rfl⟩ : ∃ v0 v1 v2 v3, cs' = [v0, v1, v2, v3] := by
          match cs', hlen with
          | [v0, v1, v2, v3], _ => exact ⟨v0, v1, v2, v3, rfl⟩
        obtain ⟨s, es, fs⟩ := open_st4 h2
        refine ⟨s, fun _ => ⟨fun j hj => ?_, fs⟩⟩
        rw [← es]
        have := hcell j hj
        rw [Go.Deep.add_add] at this
        rw [this]
      · exact ⟨zeroS, fun h => absurd h hi⟩
    obtain ⟨F, hF⟩ := Classical.axiomOfChoice hA
    refine ⟨(List.range l).map F, ?_, fun p hp => ?_⟩
    · unfold HasSts
      rw [List.length_map, List.length_range]
      refine row_of (by decide) hl hm (by rw [stCs_len]; simp) (fun j hj => ?_)
      have hj2 : j / 4 < l := by omega
      obtain ⟨hc, _⟩ := hF (j / 4) hj2
      show _ = (((List.range l).map F).flatMap stC)[j]?
      rw [flat_get stC 4 (by decide) (fun x => rfl) _ j (by simp; omega)]
      simp only [List.getElem_map, List.getElem_range]
      rw [← hc (j % 4) (by omega)]
      congr 2
      omega
    · obtain ⟨i, hi, rfl⟩ := List.mem_map.1 hp
      exact (hF i (List.mem_range.1 hi)).2
set_option maxRecDepth 100000 in
theorem open_events {v : Value} {fuel : Nat} {x : DataW H × List MemPlace} (h : DataW.trod enc Try.prog W base spare held fuel 22 [v] = some x) : ∃ l : List Ev, HasEvs W v l ∧ ∀ s ∈ l, FitE s := by
  rcases Go.Deep.open_slice Try.underlying22 h with ⟨hcs, _⟩ | ⟨a, l, c, m, n, D, Pl, hcs, _, hl, hm, hmm, _, hx⟩
  · injection hcs with e; subst e
    exact ⟨[], hasRow_nil _ _, by simp⟩
  · injection hcs with e; subst e
    have hlm : l ≤ m := by rw [hmm]; split <;> omega
    have hA : ∀ i, ∃ p : Ev, i < l → (∀ j, j < 12 → W.cell? (a.add (i * 12 + j)) = (evC p)[j]?) ∧ FitE p := fun i => by
      by_cases hi : i < l
      · obtain ⟨cs', h1, h2⟩ := hx i (by omega)
        rw [show Try.prog.cellsOf 39 = 12 from by kernel_rfl] at h1
        obtain ⟨_, hlen, hcell⟩ := World.cells?_some h1
        obtain ⟨v0, v1, v2, v3, v4, v5, v6, v7, v8, v9, v10, v11, rfl⟩ : ∃ v0 v1 v2 v3 v4 v5 v6 v7 v8 v9 v10 v11, cs' = [v0, v1, v2, v3, v4, v5, v6, v7, v8, v9, v10, v11] := by
          match cs', hlen with
          | [v0, v1, v2, v3, v4, v5, v6, v7, v8, v9, v10, v11], _ => exact ⟨v0, v1, v2, v3, v4, v5, v6, v7, v8, v9, v10, v11, rfl⟩
        obtain ⟨s, es, fs⟩ := open_ev12 h2
        refine ⟨s, fun _ => ⟨fun j hj => ?_, fs⟩⟩
        rw [← es]
        have := hcell j hj
        rw [Go.Deep.add_add] at this
        rw [this]
      · exact ⟨Msg.zeroE, fun h => absurd h hi⟩
    obtain ⟨F, hF⟩ := Classical.axiomOfChoice hA
    refine ⟨(List.range l).map F, ?_, fun p hp => ?_⟩
    · unfold HasEvs
      rw [List.length_map, List.length_range]
      refine row_of (by decide) hl hm (by rw [evCs_len]; simp) (fun j hj => ?_)
      have hj2 : j / 12 < l := by omega
      obtain ⟨hc, _⟩ := hF (j / 12) hj2
      show _ = (((List.range l).map F).flatMap evC)[j]?
      rw [flat_get evC 12 (by decide) (fun x => rfl) _ j (by simp; omega)]
      simp only [List.getElem_map, List.getElem_range]
      rw [← hc (j % 12) (by omega)]
      congr 2
      omega
    · obtain ⟨i, hi, rfl⟩ := List.mem_map.1 hp
      exact (hF i (List.mem_range.1 hi)).2
end
end Go.Proofs.Ytckaajadajjijab.Ord
namespace Go.Proofs.Ytckaajadajjijab.Ord
open Go.RowKit Go.Shelf
open Go.Proofs.Ytckaajadajjijab.Msg (Ev okE checkE evV evC FitE echeck_any cells12' gkeep gsetO set1 results_cell_tmp1 zeroPf zeroA zeroE evV_zero evV_z)
open Go.Proofs.Ytckaajadajjijab.Addr (hiN loN RowAt below2 below_drew below_new bset RowAt.lt RowAt.cell RowAt.frozen RowAt.below RowAt.drew RowAt.new RowAt.alloc gdrew gset gbelow galloc grefl gfinal cells2 cells4 results_cell Bl bl_ne wp_region_bl bl_call bl_same)
attribute [-go_sem] Builtin.append_

def upE : Ev := ⟨1, 2, 1, 5, zeroPf, zeroA, 0, 0⟩
def linkE : Ev := ⟨6, 2, 2, 5, zeroPf, zeroA, 0, 0⟩
def up3 : Ev := ⟨1, 2, 3, 5, zeroPf, zeroA, 0, 0⟩
theorem fit_up : FitE upE := ⟨by decide, by decide, by decide, by decide, by decide, by decide, ⟨by decide, by decide, by decide⟩, by decide, by decide⟩
theorem fit_lk : FitE linkE := ⟨by decide, by decide, by decide, by decide, by decide, by decide, ⟨by decide, by decide, by decide⟩, by decide, by decide⟩
theorem fit_u3 : FitE up3 := ⟨by decide, by decide, by decide, by decide, by decide, by decide, ⟨by decide, by decide, by decide⟩, by decide, by decide⟩
theorem fit_ze : FitE zeroE := ⟨by decide, by decide, by decide, by decide, by decide, by decide, ⟨by decide, by decide, by decide⟩, by decide, by decide⟩
theorem v_up : evV upE = .agg #[.int .u8 1, .int .i64 2, .int .u64 1, .int .i64 5, .bool false, .int .u64 0, .int .u64 0, .int .i64 0, .int .u8 0, .int .i64 0, .int .i64 0, .int .i64 0] := by unfold upE; rw [evV_zero]; rfl
theorem v_lk : evV linkE = .agg #[.int .u8 6, .int .i64 2, .int .u64 2, .int .i64 5, .bool false, .int .u64 0, .int .u64 0, .int .i64 0, .int .u8 0, .int .i64 0, .int .i64 0, .int .i64 0] := by unfold linkE; rw [evV_zero]; rfl
theorem v_u3 : evV up3 = .agg #[.int .u8 1, .int .i64 2, .int .u64 3, .int .i64 5, .bool false, .int .u64 0, .int .u64 0, .int .i64 0, .int .u8 0, .int .i64 0, .int .i64 0, .int .i64 0] := by unfold up3; rw [evV_zero]; rfl
theorem l1 : nextL [] upE (-1) = ([⟨2, 1, 5, true⟩], 0) := by kernel_rfl
theorem l2 : mayL [] linkE (-1) = 14 := by kernel_rfl
theorem l3 : mayL [⟨2, 1, 5, true⟩] upE (-1) = 12 := by kernel_rfl
theorem l4 : mayL [] upE 5 = 13 := by kernel_rfl
theorem l5 : allL 0 [] [upE, linkE, linkE] 0 = ([⟨2, 2, 5, true⟩], 2, 12) := by kernel_rfl
theorem l6 : seatOf [⟨2, 2, 5, true⟩] 2 = ⟨2, 2, 5, true⟩ ∧ isIn [⟨2, 2, 5, true⟩] 2 = true := ⟨by kernel_rfl, by kernel_rfl⟩
theorem l7 : mayL [⟨2, 2, 5, true⟩] up3 (-1) = 10 := by kernel_rfl
theorem l8 : (nextL [⟨2, 1, 5, true⟩] zeroE (-1)).2 = 2 := by kernel_rfl
theorem l9 : checkL [⟨2, 2, 5, true⟩] = 0 := by kernel_rfl
theorem HasSts.grown {W W' : World} {v : Value} {ps : List St} {B : Nat} (h : HasSts W v ps) (hg : W.grownBy W' (some B)) (hB : ∀ a n c, v = .slice (some a) n c → a.block ≠ B) : HasSts W' v ps := by
  refine ⟨h.1, ?_⟩
  rcases h.2 with h0 | ⟨a, cap, e, h1, h2, h3, h4⟩
  · exact .inl h0
  · refine .inr ⟨a, cap, e, h1, h2, fun h => ⟨(h3 h).1, Nat.lt_of_lt_of_le (h3 h).2 hg.size⟩, fun j hj => ?_⟩
    have hn : 0 < ps.length := by rcases Nat.eq_zero_or_pos ps.length with h0 | h0; rw [h0] at hj; omega; exact h0
    have hne := hB a _ _ e
    obtain ⟨b, i, s⟩ := a
    obtain ⟨hs, hlt⟩ := h3 hn
    simp only at hs hlt hne
    subst hs
    have h5 := h4 j hj
    rw [addr_add] at h5 ⊢
    rw [← h5]
    exact World.cell?_of_block (w := W) (hg.block b hlt (by simp; exact hne))
theorem evs_lit (W : World) (es : List Ev) (n : Nat) (hn : n = es.length) (hm : n ≤ 1000) (cs : Array Value) (hc : cs = (evCs es).toArray) : HasEvs (W.alloc (.cells cs 39)) (.slice (some ⟨W.heap.size, 0, none⟩) n n) es := by
  subst hn hc
  refine ⟨evCs_len es, .inr ⟨⟨W.heap.size, 0, none⟩, es.length, rfl, Nat.le_refl _, by omega, fun _ => ⟨rfl, by simp⟩, fun j hj => ?_⟩⟩
  rw [addr_add, Nat.zero_add]
  exact (RowAt.new W (evCs es) 39).cell j
theorem evs3 : (#[.int .u8 1, .int .i64 2, .int .u64 1, .int .i64 5, .bool false, .int .u64 0, .int .u64 0, .int .i64 0, .int .u8 0, .int .i64 0, .int .i64 0, .int .i64 0, .int .u8 6, .int .i64 2, .int .u64 2, .int .i64 5, .bool false, .int .u64 0, .int .u64 0, .int .i64 0, .int .u8 0, .int .i64 0, .int .i64 0, .int .i64 0, .int .u8 6, .int .i64 2, .int .u64 2, .int .i64 5, .bool false, .int .u64 0, .int .u64 0, .int .i64 0, .int .u8 0, .int .i64 0, .int .i64 0, .int .i64 0] : Array Value) = (evCs [upE, linkE, linkE]).toArray := by
  have h1 : evC upE = [.int .u8 1, .int .i64 2, .int .u64 1, .int .i64 5, .bool false, .int .u64 0, .int .u64 0, .int .i64 0, .int .u8 0, .int .i64 0, .int .i64 0, .int .i64 0] := by have := v_up; unfold evV at this; injection this with this; exact List.toArray_inj this
  have h2 : evC linkE = [.int .u8 6, .int .i64 2, .int .u64 2, .int .i64 5, .bool false, .int .u64 0, .int .u64 0, .int .i64 0, .int .u8 0, .int .i64 0, .int .i64 0, .int .i64 0] := by have := v_lk; unfold evV at this; injection this with this; exact List.toArray_inj this
  show _ = (evC upE ++ (evC linkE ++ (evC linkE ++ []))).toArray
  rw [h1, h2]
  rfl
set_option maxHeartbeats 8000000 in
set_option maxRecDepth 20000 in
theorem lives_any (w : World) : Calls Try.prog 16 #[] w fun e w' => e = .returned (.bool true) ∧ Below w.heap.size w w' := by
  have k1 : ∀ W : World, Calls Try.prog 12 #[.slice none 0 0, .agg #[.int .u8 1, .int .i64 2, .int .u64 1, .int .i64 5, .bool false, .int .u64 0, .int .u64 0, .int .i64 0, .int .u8 0, .int .i64 0, .int .i64 0, .int .i64 0], .int .i64 (-1)] W fun r w' => ∃ u, r = .returned (.tuple #[u, .int .i64 0]) ∧ (HasSts w' u [⟨2, 1, 5, true⟩] ∧ NewIn W u) ∧ Below W.heap.size W w' := fun W => by
    have := next_any [] (.slice none 0 0) upE (-1) W (hasRow_nil W 4) fit_up
    rw [l1, v_up] at this
    exact this
  have k2 : ∀ W : World, Calls Try.prog 19 #[.slice none 0 0, .agg #[.int .u8 6, .int .i64 2, .int .u64 2, .int .i64 5, .bool false, .int .u64 0, .int .u64 0, .int .i64 0, .int .u8 0, .int .i64 0, .int .i64 0, .int .i64 0], .int .i64 (-1)] W fun r w' => r = .returned (.int .i64 14) ∧ Below W.heap.size W w' := fun W => by
    have := may_any [] (.slice none 0 0) linkE (-1) W (hasRow_nil W 4) fit_lk
    rw [l2, v_lk] at this
    exact this
  have k3 : ∀ (W : World) (u : Value), HasSts W u [⟨2, 1, 5, true⟩] → Calls Try.prog 19 #[u, .agg #[.int .u8 1, .int .i64 2, .int .u64 1, .int .i64 5, .bool false, .int .u64 0, .int .u64 0, .int .i64 0, .int .u8 0, .int .i64 0, .int .i64 0, .int .i64 0], .int .i64 (-1)] W fun r w' => r = .returned (.int .i64 12) ∧ Below W.heap.size W w' := fun W u hu => by
    have := may_any _ u upE (-1) W hu fit_up
    rw [l3, v_up] at this
    exact this
  have k4 : ∀ W : World, Calls Try.prog 19 #[.slice none 0 0, .agg #[.int .u8 1, .int .i64 2, .int .u64 1, .int .i64 5, .bool false, .int .u64 0, .int .u64 0, .int .i64 0, .int .u8 0, .int .i64 0, .int .i64 0, .int .i64 0], .int .i64 5] W fun r w' => r = .returned (.int .i64 13) ∧ Below W.heap.size W w' := fun W => by
    have := may_any [] (.slice none 0 0) upE 5 W (hasRow_nil W 4) fit_up
    rw [l4, v_up] at this
    exact this
  have k5 : ∀ (W : World) (ve : Value), HasEvs W ve [upE, linkE, linkE] → Calls Try.prog 22 #[.slice none 0 0, ve, .int .i64 0] W fun r w' => ∃ u, r = .returned (.tuple #[u, .int .i64 2, .int .i64 12]) ∧ (HasSts w' u [⟨2, 2, 5, true⟩] ∧ NewIn W u) ∧ Below W.heap.size W w' := fun W ve hv => by
    have := all_any [] (.slice none 0 0) [upE, linkE, linkE] ve 0 W (hasRow_nil W 4) hv (fun e he => by
      simp only [List.mem_cons, List.not_mem_nil, or_false] at he
      rcases he with rfl | rfl | rfl
      · exact fit_up
      · exact fit_lk
      · exact fit_lk) (by decide)
    rw [l5] at this
    exact this
  have k6 : ∀ (W : World) (u : Value), HasSts W u [⟨2, 2, 5, true⟩] → Calls Try.prog 14 #[u, .int .i64 2] W fun r w' => r = .returned (.tuple #[.agg #[.int .i64 2, .int .u64 2, .int .i64 5, .bool true], .bool true]) ∧ Below W.heap.size W w' := fun W u hu => by
    have := find_any _ u 2 W hu
    rw [l6.1, l6.2] at this
    exact this
  have k7 : ∀ (W : World) (u : Value), HasSts W u [⟨2, 2, 5, true⟩] → Calls Try.prog 19 #[u, .agg #[.int .u8 1, .int .i64 2, .int .u64 3, .int .i64 5, .bool false, .int .u64 0, .int .u64 0, .int .i64 0, .int .u8 0, .int .i64 0, .int .i64 0, .int .i64 0], .int .i64 (-1)] W fun r w' => r = .returned (.int .i64 10) ∧ Below W.heap.size W w' := fun W u hu => by
    have := may_any _ u up3 (-1) W hu fit_u3
    rw [l7, v_u3] at this
    exact this
  have k8 : ∀ (W : World) (u : Value), HasSts W u [⟨2, 1, 5, true⟩] → Calls Try.prog 12 #[u, .agg #[.int .u8 0, .int .i64 0, .int .u64 0, .int .i64 0, .bool false, .int .u64 0, .int .u64 0, .int .i64 0, .int .u8 0, .int .i64 0, .int .i64 0, .int .i64 0], .int .i64 (-1)] W fun r w' => ∃ u', r = .returned (.tuple #[u', .int .i64 2]) ∧ Below W.heap.size W w' := fun W u hu => by
    have := next_any _ u zeroE (-1) W hu fit_ze
    rw [l8, evV_z] at this
    refine this.mono ?_
    rintro r w' ⟨u', h1, _, h2⟩
    exact ⟨u', h1, h2⟩
  have k9 : ∀ (W : World) (u v : Value), HasSts W u [⟨2, 1, 5, true⟩] → HasSts W v [⟨2, 1, 5, true⟩] → Calls Try.prog 21 #[u, v] W fun r w' => r = .returned (.bool true) ∧ Below W.heap.size W w' := fun W u v h1 h2 => same_any _ u v W h1 h2
  have k10 : ∀ (W : World) (u : Value), HasSts W u [⟨2, 2, 5, true⟩] → Calls Try.prog 17 #[u] W fun r w' => r = .returned (.int .i64 0) ∧ Below W.heap.size W w' := fun W u hu => by
    have := check_any _ u W hu
    rw [l9] at this
    exact this
  have HLIT : Hid (∀ W : World, HasEvs (W.alloc (.cells #[.int .u8 1, .int .i64 2, .int .u64 1, .int .i64 5, .bool false, .int .u64 0, .int .u64 0, .int .i64 0, .int .u8 0, .int .i64 0, .int .i64 0, .int .i64 0, .int .u8 6, .int .i64 2, .int .u64 2, .int .i64 5, .bool false, .int .u64 0, .int .u64 0, .int .i64 0, .int .u8 0, .int .i64 0, .int .i64 0, .int .i64 0, .int .u8 6, .int .i64 2, .int .u64 2, .int .i64 5, .bool false, .int .u64 0, .int .u64 0, .int .i64 0, .int .u8 0, .int .i64 0, .int .i64 0, .int .i64 0] 39)) (.slice (some ⟨W.heap.size, 0, none⟩) 3 3) [upE, linkE, linkE]) := fun W => evs_lit W _ 3 rfl (by decide) _ evs3
  have HONE : Hid (∀ W : World, HasSts (W.alloc (.cells #[.int .i64 2, .int .u64 1, .int .i64 5, .bool true] 48)) (.slice (some ⟨W.heap.size, 0, none⟩) 1 1) [⟨2, 1, 5, true⟩]) := fun W => one_has W ⟨2, 1, 5, true⟩
  obtain ⟨X, hX⟩ : ∃ X, X = (w.alloc (.cells #[.int .u8 1, .int .i64 2, .int .u64 1, .int .i64 5, .bool false, .int .u64 0, .int .u64 0, .int .i64 0, .int .u8 0, .int .i64 0, .int .i64 0, .int .i64 0] 39)).alloc (.cells #[.int .u8 6, .int .i64 2, .int .u64 2, .int .i64 5, .bool false, .int .u64 0, .int .u64 0, .int .i64 0, .int .u8 0, .int .i64 0, .int .i64 0, .int .i64 0] 39) := ⟨_, rfl⟩
  have hB : Below w.heap.size w X := by rw [hX]; exact below_new (below_new (Below.refl _ _) _) _
  have r1 : RowAt X w.heap.size [.int .u8 1, .int .i64 2, .int .u64 1, .int .i64 5, .bool false, .int .u64 0, .int .u64 0, .int .i64 0, .int .u8 0, .int .i64 0, .int .i64 0, .int .i64 0] 39 := by rw [hX]; exact (RowAt.new w [.int .u8 1, .int .i64 2, .int .u64 1, .int .i64 5, .bool false, .int .u64 0, .int .u64 0, .int .i64 0, .int .u8 0, .int .i64 0, .int .i64 0, .int .i64 0] 39).alloc _
  have r2 : RowAt X (w.heap.size + 1) [.int .u8 6, .int .i64 2, .int .u64 2, .int .i64 5, .bool false, .int .u64 0, .int .u64 0, .int .i64 0, .int .u8 0, .int .i64 0, .int .i64 0, .int .i64 0] 39 := by
    have h := RowAt.new (w.alloc (.cells #[.int .u8 1, .int .i64 2, .int .u64 1, .int .i64 5, .bool false, .int .u64 0, .int .u64 0, .int .i64 0, .int .u8 0, .int .i64 0, .int .i64 0, .int .i64 0] 39)) [.int .u8 6, .int .i64 2, .int .u64 2, .int .i64 5, .bool false, .int .u64 0, .int .u64 0, .int .i64 0, .int .u8 0, .int .i64 0, .int .i64 0, .int .i64 0] 39
    rw [World.size_alloc] at h
    rw [hX]; exact h
  go_enter Try.func16, Try.ntmps16
  go_upto_region 3 with fail
  rw [← hX]
  clear hX
  obtain ⟨g1, hg1⟩ : ∃ g, g = w.heap.size := ⟨_, rfl⟩
  obtain ⟨g2, hg2⟩ : ∃ g, g = w.heap.size + 1 := ⟨_, rfl⟩
  have hgw : w.heap.size ≤ g1 := by omega
  have hg12 : g1 ≠ g2 := by omega
  rw [← hg1] at r1
  rw [← hg2] at r2
  rw [← hg2, ← hg1]
  clear hg1 hg2
  obtain ⟨⟨y0, y1, y2, y3, y4, y5⟩, ⟨y6, y7, y8, y9, y10, y11⟩, yf, hly⟩ := cells12' r1
  obtain ⟨⟨z0, z1, z2, z3, z4, z5⟩, ⟨z6, z7, z8, z9, z10, z11⟩, zf, hlz⟩ := cells12' r2
  go_wp2_with fail
  go_at_call 12; refine (k1 _).mono ?_; rintro e w1 ⟨u1, rfl, ⟨hs, hnw⟩, hb⟩
  have hlr := RowAt.lt r1
  replace r1 := RowAt.below r1 hb
  replace r2 := RowAt.below r2 hb
  replace hB := below2 hB hb
  have S1 : Hid (HasSts w1 u1 [⟨2, 1, 5, true⟩]) := hs
  have N1 : Hid (∀ a n c, u1 = .slice (some a) n c → a.block ≠ g1) := fun a n c e => by have := hnw a n c e; omega
  clear hs hb k1 hnw
  clear y0 y1 y2 y3 y4 y5 y6 y7 y8 y9 y10 y11 yf hly z0 z1 z2 z3 z4 z5 z6 z7 z8 z9 z10 z11 zf hlz
  obtain ⟨⟨y0, y1, y2, y3, y4, y5⟩, ⟨y6, y7, y8, y9, y10, y11⟩, yf, hly⟩ := cells12' r1
  obtain ⟨⟨z0, z1, z2, z3, z4, z5⟩, ⟨z6, z7, z8, z9, z10, z11⟩, zf, hlz⟩ := cells12' r2
  go_wp2_with fail
  go_at_call 19; refine (k2 _).mono ?_; rintro e w2 ⟨rfl, hb⟩
  replace r1 := RowAt.below r1 hb
  replace r2 := RowAt.below r2 hb
  replace hB := below2 hB hb
  replace S1 : Hid (HasSts _ _ [⟨2, 1, 5, true⟩]) := S1.out.keep hb
  clear hb k2
  clear y0 y1 y2 y3 y4 y5 y6 y7 y8 y9 y10 y11 yf hly z0 z1 z2 z3 z4 z5 z6 z7 z8 z9 z10 z11 zf hlz
  obtain ⟨⟨y0, y1, y2, y3, y4, y5⟩, ⟨y6, y7, y8, y9, y10, y11⟩, yf, hly⟩ := cells12' r1
  obtain ⟨⟨z0, z1, z2, z3, z4, z5⟩, ⟨z6, z7, z8, z9, z10, z11⟩, zf, hlz⟩ := cells12' r2
  go_wp2_with fail
  go_at_call 19; refine (k3 _ _ S1.out).mono ?_; rintro e w3 ⟨rfl, hb⟩
  replace r1 := RowAt.below r1 hb
  replace r2 := RowAt.below r2 hb
  replace hB := below2 hB hb
  replace S1 : Hid (HasSts _ _ [⟨2, 1, 5, true⟩]) := S1.out.keep hb
  clear hb k3
  clear y0 y1 y2 y3 y4 y5 y6 y7 y8 y9 y10 y11 yf hly z0 z1 z2 z3 z4 z5 z6 z7 z8 z9 z10 z11 zf hlz
  obtain ⟨⟨y0, y1, y2, y3, y4, y5⟩, ⟨y6, y7, y8, y9, y10, y11⟩, yf, hly⟩ := cells12' r1
  obtain ⟨⟨z0, z1, z2, z3, z4, z5⟩, ⟨z6, z7, z8, z9, z10, z11⟩, zf, hlz⟩ := cells12' r2
  go_wp2_with fail
  go_at_call 19; refine (k4 _).mono ?_; rintro e w4 ⟨rfl, hb⟩
  replace r1 := RowAt.below r1 hb
  replace r2 := RowAt.below r2 hb
  replace hB := below2 hB hb
  replace S1 : Hid (HasSts _ _ [⟨2, 1, 5, true⟩]) := S1.out.keep hb
  clear hb k4
  clear y0 y1 y2 y3 y4 y5 y6 y7 y8 y9 y10 y11 yf hly z0 z1 z2 z3 z4 z5 z6 z7 z8 z9 z10 z11 zf hlz
  obtain ⟨⟨y0, y1, y2, y3, y4, y5⟩, ⟨y6, y7, y8, y9, y10, y11⟩, yf, hly⟩ := cells12' r1
  obtain ⟨⟨z0, z1, z2, z3, z4, z5⟩, ⟨z6, z7, z8, z9, z10, z11⟩, zf, hlz⟩ := cells12' r2
  go_wp2_with fail
  go_at_call 22; refine (k5 _ _ (HLIT.out _)).mono ?_; rintro e w5 ⟨u2, rfl, ⟨hs, hnw⟩, hb0⟩
  have hb := below2 (below_new (Below.refl _ w4) _) hb0
  clear hlr
  have hlr := RowAt.lt r1
  replace r1 := RowAt.below r1 hb
  replace r2 := RowAt.below r2 hb
  replace hB := below2 hB hb
  replace S1 : Hid (HasSts _ _ [⟨2, 1, 5, true⟩]) := S1.out.keep hb
  have S2 : Hid (HasSts w5 u2 [⟨2, 2, 5, true⟩]) := hs
  have N2 : Hid (∀ a n c, u2 = .slice (some a) n c → a.block ≠ g1) := fun a n c e => by have := hnw a n c e; rw [World.size_alloc] at this; omega
  clear hs hb hb0 k5 HLIT hnw hlr
  clear y0 y1 y2 y3 y4 y5 y6 y7 y8 y9 y10 y11 yf hly z0 z1 z2 z3 z4 z5 z6 z7 z8 z9 z10 z11 zf hlz
  obtain ⟨⟨y0, y1, y2, y3, y4, y5⟩, ⟨y6, y7, y8, y9, y10, y11⟩, yf, hly⟩ := cells12' r1
  obtain ⟨⟨z0, z1, z2, z3, z4, z5⟩, ⟨z6, z7, z8, z9, z10, z11⟩, zf, hlz⟩ := cells12' r2
  go_wp2_with fail
  go_at_call 14; refine (k6 _ _ S2.out).mono ?_; rintro e w6 ⟨rfl, hb⟩
  replace r1 := RowAt.below r1 hb
  replace r2 := RowAt.below r2 hb
  replace hB := below2 hB hb
  replace S1 : Hid (HasSts _ _ [⟨2, 1, 5, true⟩]) := S1.out.keep hb
  replace S2 : Hid (HasSts _ _ [⟨2, 2, 5, true⟩]) := S2.out.keep hb
  clear hb k6
  clear y0 y1 y2 y3 y4 y5 y6 y7 y8 y9 y10 y11 yf hly z0 z1 z2 z3 z4 z5 z6 z7 z8 z9 z10 z11 zf hlz
  obtain ⟨⟨y0, y1, y2, y3, y4, y5⟩, ⟨y6, y7, y8, y9, y10, y11⟩, yf, hly⟩ := cells12' r1
  obtain ⟨⟨z0, z1, z2, z3, z4, z5⟩, ⟨z6, z7, z8, z9, z10, z11⟩, zf, hlz⟩ := cells12' r2
  go_upto_region 9 with fail
  obtain ⟨Y, hY⟩ : ∃ Y, Y = w6.alloc (.cells #[.int .i64 2, .int .u64 2, .int .i64 5, .bool true] 48) := ⟨_, rfl⟩
  have hb : Below w6.heap.size w6 Y := by rw [hY]; exact below_new (Below.refl _ _) _
  have r3 : RowAt Y w6.heap.size [.int .i64 2, .int .u64 2, .int .i64 5, .bool true] 48 := by rw [hY]; exact RowAt.new _ _ _
  rw [← hY]
  have hl1 := RowAt.lt r1
  replace r1 := RowAt.below r1 hb
  replace r2 := RowAt.below r2 hb
  replace hB := below2 hB hb
  replace S1 : Hid (HasSts _ _ [⟨2, 1, 5, true⟩]) := S1.out.keep hb
  replace S2 : Hid (HasSts _ _ [⟨2, 2, 5, true⟩]) := S2.out.keep hb
  obtain ⟨g3, hg3⟩ : ∃ g, g = w6.heap.size := ⟨_, rfl⟩
  rw [← hg3] at r3 hl1 ⊢
  have hg13 : g3 ≠ g1 := by omega
  clear hY hb hg3 hl1
  clear y0 y1 y2 y3 y4 y5 y6 y7 y8 y9 y10 y11 yf hly z0 z1 z2 z3 z4 z5 z6 z7 z8 z9 z10 z11 zf hlz
  obtain ⟨⟨y0, y1, y2, y3, y4, y5⟩, ⟨y6, y7, y8, y9, y10, y11⟩, yf, hly⟩ := cells12' r1
  obtain ⟨⟨z0, z1, z2, z3, z4, z5⟩, ⟨z6, z7, z8, z9, z10, z11⟩, zf, hlz⟩ := cells12' r2
  go_upto_region 10 with fail
  have hgr := gsetO Y g1 2 (.int .u64 3)
  have r1' := set1 r1 2 (.int .u64 3)
  replace r2 := gkeep r2 hgr (by omega)
  replace r3 := gkeep r3 hgr hg13
  replace hB := bset hB (by omega) (v := .int .u64 3) (k := 2) (b := g1)
  replace S1 : Hid (HasSts _ _ [⟨2, 1, 5, true⟩]) := HasSts.grown S1.out hgr N1.out
  replace S2 : Hid (HasSts _ _ [⟨2, 2, 5, true⟩]) := HasSts.grown S2.out hgr N2.out
  generalize Y.setCell ⟨g1, 2, none⟩ (.int .u64 3) = Z at *
  clear r1 hgr
  have r1 : RowAt Z g1 [.int .u8 1, .int .i64 2, .int .u64 3, .int .i64 5, .bool false, .int .u64 0, .int .u64 0, .int .i64 0, .int .u8 0, .int .i64 0, .int .i64 0, .int .i64 0] 39 := r1'
  clear r1'
  clear y0 y1 y2 y3 y4 y5 y6 y7 y8 y9 y10 y11 yf hly z0 z1 z2 z3 z4 z5 z6 z7 z8 z9 z10 z11 zf hlz
  obtain ⟨⟨y0, y1, y2, y3, y4, y5⟩, ⟨y6, y7, y8, y9, y10, y11⟩, yf, hly⟩ := cells12' r1
  obtain ⟨⟨z0, z1, z2, z3, z4, z5⟩, ⟨z6, z7, z8, z9, z10, z11⟩, zf, hlz⟩ := cells12' r2
  go_wp2_with fail
  go_at_call 19; refine (k7 _ _ S2.out).mono ?_; rintro e w7 ⟨rfl, hb⟩
  replace r1 := RowAt.below r1 hb
  replace r2 := RowAt.below r2 hb
  replace hB := below2 hB hb
  replace S1 : Hid (HasSts _ _ [⟨2, 1, 5, true⟩]) := S1.out.keep hb
  replace S2 : Hid (HasSts _ _ [⟨2, 2, 5, true⟩]) := S2.out.keep hb
  replace r3 := RowAt.below r3 hb
  clear hb k7
  clear y0 y1 y2 y3 y4 y5 y6 y7 y8 y9 y10 y11 yf hly z0 z1 z2 z3 z4 z5 z6 z7 z8 z9 z10 z11 zf hlz
  obtain ⟨⟨y0, y1, y2, y3, y4, y5⟩, ⟨y6, y7, y8, y9, y10, y11⟩, yf, hly⟩ := cells12' r1
  obtain ⟨⟨z0, z1, z2, z3, z4, z5⟩, ⟨z6, z7, z8, z9, z10, z11⟩, zf, hlz⟩ := cells12' r2
  go_wp2_with fail
  go_at_call 12; refine (k8 _ _ S1.out).mono ?_; rintro e w8 ⟨u8, rfl, hb⟩
  replace r1 := RowAt.below r1 hb
  replace r2 := RowAt.below r2 hb
  replace hB := below2 hB hb
  replace S1 : Hid (HasSts _ _ [⟨2, 1, 5, true⟩]) := S1.out.keep hb
  replace S2 : Hid (HasSts _ _ [⟨2, 2, 5, true⟩]) := S2.out.keep hb
  replace r3 := RowAt.below r3 hb
  clear hb k8
  clear y0 y1 y2 y3 y4 y5 y6 y7 y8 y9 y10 y11 yf hly z0 z1 z2 z3 z4 z5 z6 z7 z8 z9 z10 z11 zf hlz
  obtain ⟨⟨y0, y1, y2, y3, y4, y5⟩, ⟨y6, y7, y8, y9, y10, y11⟩, yf, hly⟩ := cells12' r1
  obtain ⟨⟨z0, z1, z2, z3, z4, z5⟩, ⟨z6, z7, z8, z9, z10, z11⟩, zf, hlz⟩ := cells12' r2
  go_wp2_with fail
  go_at_call 21; refine (k9 _ _ _ (S1.out.keep (below_new (Below.refl _ _) _)) (HONE.out _)).mono ?_; rintro e w9 ⟨rfl, hb0⟩
  have hb := below2 (below_new (Below.refl _ w8) _) hb0
  replace r3 := RowAt.below r3 hb
  replace hB := below2 hB hb
  replace S2 : Hid (HasSts _ _ [⟨2, 2, 5, true⟩]) := S2.out.keep hb
  clear hb hb0 k9 HONE S1 r1 r2
  clear y0 y1 y2 y3 y4 y5 y6 y7 y8 y9 y10 y11 yf hly z0 z1 z2 z3 z4 z5 z6 z7 z8 z9 z10 z11 zf hlz
  obtain ⟨x0, x1, x2, x3, xf⟩ := cells4 r3
  go_wp2_with fail
  go_at_call 17; refine (k10 _ _ S2.out).mono ?_; rintro e w10 ⟨rfl, hb⟩
  replace hB := below2 hB hb
  go_wp2_with fail
  go_ret
  exact ⟨rfl, hB⟩
end Go.Proofs.Ytckaajadajjijab.Ord
namespace Go.Proofs.Ytckaajadajjijab.Ord
open Go.RowKit
open Go.Proofs.Ytckaajadajjijab.Msg (Ev okE checkE evV evC FitE echeck_any cells12' gkeep gsetO results_cell_tmp1)
open Go.Proofs.Ytckaajadajjijab.Addr (RowAt below2 below_drew below_new bset RowAt.lt RowAt.cell RowAt.frozen RowAt.below RowAt.drew RowAt.new RowAt.alloc gdrew gset gbelow galloc grefl gfinal cells2 cells4 results_cell Bl bl_ne wp_region_bl bl_call bl_same)

theorem bad_some {s : St} (h : okS s = false) : s.router < 0 ∨ 1048576 < s.router ∨ (s.seq : Int) < 1 ∨ 1099511627776 < (s.seq : Int) ∨ s.time < 0 ∨ 1099511627776 < s.time := by
  unfold okS at h
  simp only [Bool.and_eq_false_iff, decide_eq_false_iff_not] at h
  omega
theorem good_all {s : St} (h : okS s = true) : ¬ s.router < 0 ∧ ¬ 1048576 < s.router ∧ ¬ (s.seq : Int) < 1 ∧ ¬ 1099511627776 < (s.seq : Int) ∧ ¬ s.time < 0 ∧ ¬ 1099511627776 < s.time := by
  unfold okS at h
  simp only [Bool.and_eq_true, decide_eq_true_eq] at h
  omega
set_option maxHeartbeats 8000000 in
set_option maxRecDepth 20000 in
theorem rcheck_any (l : List St) (v : Value) (w : World) (h : HasSts w v l) :
    Calls Try.prog 18 #[v] w fun e w' => e = .returned (.int .i64 (checkL l)) ∧ Below w.heap.size w w' := by
  obtain ⟨o, c, rfl, hc1, hc2⟩ := HasRow.slice h
  have HR : Hid (∀ wr : World, Below w.heap.size w wr → HasSts wr (.slice o l.length c) l) := fun wr hb => h.keep hb
  obtain ⟨n, hn⟩ : ∃ n, n = l.length := ⟨_, rfl⟩
  have HN : Hid (n = l.length) := hn
  rw [← hn] at HR hc1 ⊢
  have HC : Hid (checkL l = if (decide (n ≤ 64) && rise none l) then 0 else 2) := by show _ = _; unfold checkL okL; rw [← hn]
  generalize checkL l = R at HC ⊢
  clear h hn
  by_cases h64 : 64 < n
  · have HV : Hid (R = 2) := by show _ = _; rw [HC.out, decide_eq_false (by omega)]; rfl
    have q1 : decide ((64 : Int) < (n : Int)) = true := decide_eq_true (by omega)
    have q2 : decide (64 < n) = true := decide_eq_true h64
    clear HC HR
    go_enter Try.func18, Try.ntmps18
    go_wp2_with fail
    go_ret
    exact ⟨by rw [HV.out]; rfl, Below.refl _ _⟩
  · have HD : Hid (R = if rise none l then 0 else 2) := by show _ = _; rw [HC.out, decide_eq_true (by omega)]; rfl
    have hni : (n : Int) ≤ 64 := by omega
    have q1 : decide ((64 : Int) < (n : Int)) = false := decide_eq_false (by omega)
    have q2 : decide (64 < n) = false := decide_eq_false h64
    clear HC h64
    go_enter Try.func18, Try.ntmps18
    go_wp2_with fail
    go_loopw [10] (fun i wr => ∃ k : Nat, k ≤ n ∧ i = .int .i64 k ∧ Below w.heap.size w wr ∧ Hid (rise none l = rise (prevR l k) (l.drop k))) (fun i _ => n - (intOf i).toNat)
    case atStart => exact ⟨0, by omega, rfl, Below.refl _ _, (rfl : rise none l = _)⟩
    case round =>
      obtain ⟨k, hk, rfl, hB, HG⟩ := hrel
      have hh := HR.out _ hB
      by_cases hlt : k < n
      · have hkz : k < l.length := by rw [← HN.out]; exact hlt
        obtain ⟨g1, i1, rfl, hg1, a0, a1, a2, a3⟩ := HasSts.cell hh k hkz
        have hki : (k : Int) < (n : Int) := by omega
        have HB1 : Hid (okS l[k] = false → R = 2) := fun h => round_bad hkz HD.out HG.out h
        have HB2 : Hid (okS l[k] = true → k = 0 → rise none l = rise (prevR l 1) (l.drop 1)) := fun h h0 => round_first hkz HG.out h h0
        have HB3 : Hid (okS l[k] = true → ∀ (j : Nat) (hj : j < l.length), k = j + 1 → (decide (l[k].router ≤ l[j].router) = false → rise none l = rise (prevR l (k + 1)) (l.drop (k + 1))) ∧ (decide (l[k].router ≤ l[j].router) = true → R = 2)) := fun h j hj h0 => round_next hkz HD.out HG.out h h0 hj
        have HOK : Hid (okS l[k] = true → ¬ l[k].router < 0 ∧ ¬ 1048576 < l[k].router ∧ ¬ (l[k].seq : Int) < 1 ∧ ¬ 1099511627776 < (l[k].seq : Int) ∧ ¬ l[k].time < 0 ∧ ¬ 1099511627776 < l[k].time) := fun h => good_all h
        have HBD : Hid (okS l[k] = false → l[k].router < 0 ∨ 1048576 < l[k].router ∨ (l[k].seq : Int) < 1 ∨ 1099511627776 < (l[k].seq : Int) ∨ l[k].time < 0 ∨ 1099511627776 < l[k].time) := fun h => bad_some h
        generalize okS l[k] = B1 at HB1 HB2 HB3 HOK HBD
        generalize l[k].router = ra at a0 HB3 HOK HBD
        generalize (l[k].seq : Int) = rb at a1 HOK HBD
        generalize l[k].time = rc at a2 HOK HBD
        generalize l[k].up = ru at a3
        clear HG
        go_upto_region 6 with fail
        obtain ⟨X, hX⟩ : ∃ X, X = wr.alloc (.cells #[.int .i64 ra, .int .u64 rb, .int .i64 rc, .bool ru] 48) := ⟨_, rfl⟩
        have hbX : Below wr.heap.size wr X := by rw [hX]; exact below_new (Below.refl _ _) _
        have rx : RowAt X wr.heap.size [.int .i64 ra, .int .u64 rb, .int .i64 rc, .bool ru] 48 := by rw [hX]; exact RowAt.new _ _ _
        rw [← hX]
        have hBX := below2 hB hbX
        have hhX := hh.keep hbX
        clear hX
        obtain ⟨gs, hgs⟩ : ∃ g, g = wr.heap.size := ⟨_, rfl⟩
        rw [← hgs] at rx ⊢
        clear hgs a0 a1 a2 a3 hg1
        obtain ⟨x0, x1, x2, x3, xf⟩ := cells4 rx
        cases B1
        · have HV : Hid (R = 2) := HB1.out rfl
          have hbd := HBD.out rfl
          clear HB1 HB2 HB3 HD hh hhX HOK HBD rx
          have hd : ∀ P : Prop, [Decidable P] → P ∨ ¬ P := fun P _ => Decidable.em P
          by_cases d0 : ra < 0
          · replace d0 := decide_eq_true d0
            go_wp2_with fail
            go_ret
            exact ⟨by rw [HV.out]; rfl, hBX⟩
          by_cases d1 : 1048576 < ra
          · replace d0 := decide_eq_false d0
            replace d1 := decide_eq_true d1
            go_wp2_with fail
            go_ret
            exact ⟨by rw [HV.out]; rfl, hBX⟩
          by_cases d2 : rb < 1
          · replace d0 := decide_eq_false d0
            replace d1 := decide_eq_false d1
            replace d2 := decide_eq_true d2
            go_wp2_with fail
            go_ret
            exact ⟨by rw [HV.out]; rfl, hBX⟩
          by_cases d3 : 1099511627776 < rb
          · replace d0 := decide_eq_false d0
            replace d1 := decide_eq_false d1
            replace d2 := decide_eq_false d2
            replace d3 := decide_eq_true d3
            go_wp2_with fail
            go_ret
            exact ⟨by rw [HV.out]; rfl, hBX⟩
          by_cases d4 : rc < 0
          · replace d0 := decide_eq_false d0
            replace d1 := decide_eq_false d1
            replace d2 := decide_eq_false d2
            replace d3 := decide_eq_false d3
            replace d4 := decide_eq_true d4
            go_wp2_with fail
            go_ret
            exact ⟨by rw [HV.out]; rfl, hBX⟩
          have d5 : decide (1099511627776 < rc) = true := decide_eq_true (by omega)
          replace d0 := decide_eq_false d0
          replace d1 := decide_eq_false d1
          replace d2 := decide_eq_false d2
          replace d3 := decide_eq_false d3
          replace d4 := decide_eq_false d4
          clear hbd
          go_wp2_with fail
          go_ret
          exact ⟨by rw [HV.out]; rfl, hBX⟩
        · obtain ⟨d0, d1, d2, d3, d4, d5⟩ := HOK.out rfl
          replace d0 := decide_eq_false d0
          replace d1 := decide_eq_false d1
          replace d2 := decide_eq_false d2
          replace d3 := decide_eq_false d3
          replace d4 := decide_eq_false d4
          replace d5 := decide_eq_false d5
          clear HB1 HOK HBD
          go_upto_region 8 with fail
          clear d0 d1 d2 d3 d4 d5
          by_cases hk0 : k = 0
          · have HS1 : Hid (rise none l = rise (prevR l 1) (l.drop 1)) := HB2.out rfl hk0
            have hz1 : decide ((0 : Int) < (k : Int)) = false := decide_eq_false (by omega)
            have hz2 : decide (0 < k) = false := decide_eq_false (by omega)
            have HK : Hid (k = 0) := hk0
            clear hk0 HB2 HB3 hh hhX
            go_wp2_with fail
            go_quiet (fail)
            go_wp2_with fail
            go_roundw
            case rel => exact ⟨k + 1, by omega, by go_num, by first | exact hBX | exact below_drew hBX | exact below_drewN hBX _, by rw [HK.out]; exact HS1⟩
            case measure => simp [intOf]; omega
          · obtain ⟨j, hj⟩ : ∃ j, k = j + 1 := ⟨k - 1, by omega⟩
            have hj2 : j < l.length := by omega
            obtain ⟨g2, i2, e12, hg2, b0, _, _, _⟩ := HasSts.cell hhX j hj2
            injection e12 with e12
            injection e12 with e1 e2
            subst e1 e2
            obtain ⟨HN1, HN2⟩ := HB3.out rfl j hj2 hj
            have HN1 : Hid (decide (ra ≤ l[j].router) = false → rise none l = rise (prevR l (k + 1)) (l.drop (k + 1))) := HN1
            have HN2 : Hid (decide (ra ≤ l[j].router) = true → R = 2) := HN2
            generalize l[j].router = pr at b0 HN1 HN2
            have e1 : (k : Int) - 1 = (j : Int) := by omega
            have e2 : IntKind.i64.wrap (j : Int) = (j : Int) := by rw [IntKind.wrap_i64]; omega
            have hkp : decide ((0 : Int) < (k : Int)) = true := decide_eq_true (by omega)
            have hkp' : decide (0 < k) = true := decide_eq_true (by omega)
            have hjn : (j : Int) < (n : Int) := by omega
            clear hj hk0 HB2 HB3 hh hhX
            cases B2 : decide (ra ≤ pr)
            · have HS1 : Hid (rise none l = rise (prevR l (k + 1)) (l.drop (k + 1))) := HN1.out B2
              clear HN1 HN2
              go_wp2_with fail
              go_quiet (fail)
              go_wp2_with fail
              go_roundw
              case rel => exact ⟨k + 1, by omega, by go_num, by first | exact hBX | exact below_drew hBX | exact below_drewN hBX _, HS1⟩
              case measure => simp [intOf]; omega
            · have HV : Hid (R = 2) := HN2.out B2
              clear HN1 HN2 HD
              go_wp2_with fail
              go_quiet (fail)
              go_wp2_with fail
              go_ret
              exact ⟨by rw [HV.out]; rfl, by first | exact hBX | exact below_drew hBX | exact below_drewN hBX _⟩
      · obtain rfl : k = n := by omega
        have HV : Hid (R = 0) := by
          show _ = _
          rw [HD.out, HG.out, List.drop_of_length_le (by rw [← HN.out]; exact Nat.le_refl _)]
          unfold prevR
          split <;> rfl
        clear hh HG HD
        go_wp2
        go_ret
        exact ⟨by rw [HV.out]; rfl, hB⟩
end Go.Proofs.Ytckaajadajjijab.Ord
namespace Go.Proofs.Ytckaajadajjijab.Ord
open Go.RowKit
open Go.Proofs.Ytckaajadajjijab.Msg (Ev okE checkE evV evC FitE echeck_any cells12' gkeep gsetO results_cell_tmp1)
open Go.Proofs.Ytckaajadajjijab.Addr (RowAt below2 below_drew below_new bset RowAt.lt RowAt.cell RowAt.frozen RowAt.below RowAt.drew RowAt.new RowAt.alloc gdrew gset gbelow galloc grefl gfinal cells2 cells4 results_cell Bl bl_ne wp_region_bl bl_call bl_same)
set_option maxHeartbeats 4000000 in
set_option maxRecDepth 20000 in
theorem rfind_any (l : List St) (v : Value) (r : Int) (w : World) (h : HasSts w v l) :
    Calls Try.prog 15 #[v, .int .i64 r] w fun e w' => e = .returned (.tuple #[stV (seatOf l r), .bool (isIn l r)]) ∧ Below w.heap.size w w' := by
  obtain ⟨o, c, rfl, hc1, hc2⟩ := HasRow.slice h
  have HR : Hid (∀ wr : World, Below w.heap.size w wr → HasSts wr (.slice o l.length c) l) := fun wr hb => h.keep hb
  obtain ⟨n, hn⟩ : ∃ n, n = l.length := ⟨_, rfl⟩
  have HN : Hid (n = l.length) := hn
  rw [← hn] at HR hc1 ⊢
  have hni : (n : Int) ≤ 9223372036854775807 := by omega
  obtain ⟨R, hR⟩ : ∃ R, R = (Value.tuple #[stV (seatOf l r), .bool (isIn l r)]) := ⟨_, rfl⟩
  have HD : Hid (R = .tuple #[stV ((findL (l.drop 0) r).getD zeroS), .bool (findL (l.drop 0) r).isSome]) := hR
  rw [← hR]
  obtain ⟨X, hX⟩ : ∃ X, X = w.alloc (.cells #[.int .i64 0, .int .u64 0, .int .i64 0, .bool false] 48) := ⟨_, rfl⟩
  have hB0 : Below w.heap.size w X := by rw [hX]; exact below_new (Below.refl _ _) _
  have rx : RowAt X w.heap.size [.int .i64 0, .int .u64 0, .int .i64 0, .bool false] 48 := by rw [hX]; exact RowAt.new _ _ _
  clear h hn hR
  go_enter Try.func15, Try.ntmps15
  go_upto_region 1 with fail
  rw [← hX]
  clear hX
  obtain ⟨g4, hg4⟩ : ∃ g, g = w.heap.size := ⟨_, rfl⟩
  have hgw : w.heap.size ≤ g4 := by omega
  rw [← hg4] at rx ⊢
  clear hg4
  go_wp2_with fail
  go_loopw [10] (fun i wr => ∃ k : Nat, k ≤ n ∧ i = .int .i64 k ∧ Below w.heap.size w wr ∧ Hid (RowAt wr g4 [.int .i64 0, .int .u64 0, .int .i64 0, .bool false] 48) ∧ Hid (R = .tuple #[stV ((findL (l.drop k) r).getD zeroS), .bool (findL (l.drop k) r).isSome])) (fun i _ => n - (intOf i).toNat)
  case atStart => exact ⟨0, by omega, rfl, hB0, rx, HD⟩
  case round =>
    obtain ⟨k, hk, rfl, hB, HX, HG⟩ := hrel
    have hh := HR.out _ hB
    by_cases hlt : k < n
    · have hkz : k < l.length := by rw [← HN.out]; exact hlt
      obtain ⟨g1, i1, rfl, hg1, a0, a1, a2, a3⟩ := HasSts.cell hh k hkz
      have hki : (k : Int) < (n : Int) := by omega
      have hst : findL (l.drop k) r = if decide (l[k].router = r) then some l[k] else findL (l.drop (k + 1)) r := by
        unfold findL
        rw [List.drop_eq_getElem_cons hkz, List.find?_cons]
        cases decide (l[k].router = r) <;> rfl
      have HB1 : Hid (decide (l[k].router = r) = true → R = .tuple #[.agg #[.int .i64 l[k].router, .int .u64 (l[k].seq : Int), .int .i64 l[k].time, .bool l[k].up], .bool true]) := fun e => by
        rw [HG.out, hst, e]; rfl
      have HB2 : Hid (decide (l[k].router = r) = false → R = .tuple #[stV ((findL (l.drop (k + 1)) r).getD zeroS), .bool (findL (l.drop (k + 1)) r).isSome]) := fun e => by
        rw [HG.out, hst, e]; rfl
      clear hst
      generalize l[k].router = ra at a0 HB1 HB2
      generalize (l[k].seq : Int) = rb at a1 HB1
      generalize l[k].time = rc at a2 HB1
      generalize l[k].up = ru at a3 HB1
      clear HG
      have rx := HX.out
      have hl4 := RowAt.lt rx
      go_upto_region 4 with fail
      obtain ⟨Y, hY⟩ : ∃ Y, Y = wr.alloc (.cells #[.int .i64 ra, .int .u64 rb, .int .i64 rc, .bool ru] 48) := ⟨_, rfl⟩
      have hbY : Below wr.heap.size wr Y := by rw [hY]; exact below_new (Below.refl _ _) _
      have ry : RowAt Y wr.heap.size [.int .i64 ra, .int .u64 rb, .int .i64 rc, .bool ru] 48 := by rw [hY]; exact RowAt.new _ _ _
      rw [← hY]
      replace rx := RowAt.below rx hbY
      have hBY := below2 hB hbY
      clear hY a0 a1 a2 a3 hh hg1
      obtain ⟨gs, hgs⟩ : ∃ g, g = wr.heap.size := ⟨_, rfl⟩
      rw [← hgs] at ry hl4 ⊢
      have hg4s : g4 ≠ gs := by omega
      clear hgs
      obtain ⟨x0, x1, x2, x3, xf⟩ := cells4 rx
      obtain ⟨z0, z1, z2, z3, zf⟩ := cells4 ry
      have hl5 := RowAt.lt rx
      cases hd : decide (ra = r)
      · have HS1 := HB2.out hd
        have hq : (ra == r) = false := by rw [beq_eq_false_iff_ne]; exact of_decide_eq_false hd
        have HX2 : Hid (RowAt Y g4 [.int .i64 0, .int .u64 0, .int .i64 0, .bool false] 48) := rx
        clear HB1 HB2 hd HX rx ry
        go_wp2_with fail
        go_roundw
        case rel => exact ⟨k + 1, by omega, by go_num, hBY, HX2, HS1⟩
        case measure => simp [intOf]; omega
      · have HV : Hid (R = .tuple #[.agg #[.int .i64 ra, .int .u64 rb, .int .i64 rc, .bool ru], .bool true]) := HB1.out hd
        have hq : (ra == r) = true := by rw [beq_iff_eq]; exact of_decide_eq_true hd
        clear HB1 HB2 hd HX rx ry
        go_wp2_with fail
        refine bodyPost_ret (v := .tuple #[.agg #[.int .i64 ra, .int .u64 rb, .int .i64 rc, .bool ru], .bool true]) ?_ rfl ⟨by rw [HV.out], ?_⟩
        any_goals (rw [results_cell_tmp1 rfl]; go_simp)
        all_goals (repeat' (first | with_reducible exact hBY | with_reducible apply below_drew | with_reducible refine bset ?_ (by omega)))
    · obtain rfl : k = n := by omega
      have HV : Hid (R = .tuple #[.agg #[.int .i64 0, .int .u64 0, .int .i64 0, .bool false], .bool false]) := by
        show _ = _
        rw [HG.out, List.drop_of_length_le (by rw [← HN.out]; exact Nat.le_refl _)]
        rfl
      have rx := HX.out
      obtain ⟨x0, x1, x2, x3, xf⟩ := cells4 rx
      have hl5 := RowAt.lt rx
      clear hh HG HX rx
      go_wp2_with fail
      refine bodyPost_ret (v := .tuple #[.agg #[.int .i64 0, .int .u64 0, .int .i64 0, .bool false], .bool false]) ?_ rfl ⟨by rw [HV.out], ?_⟩
      any_goals (rw [results_cell_tmp1 rfl]; go_simp)
      all_goals (repeat' (first | with_reducible exact hB | with_reducible apply below_drew | with_reducible refine bset ?_ (by omega)))
end Go.Proofs.Ytckaajadajjijab.Ord
namespace Go.Proofs.Ytckaajadajjijab.Ord
open Go.RowKit
open Go.Proofs.Ytckaajadajjijab.Msg (Ev okE checkE evV evC FitE echeck_any rcheckE_any cells12' gkeep gsetO results_cell_tmp1)
open Go.Proofs.Ytckaajadajjijab.Addr (hiN loN RowAt below2 below_drew below_new bset RowAt.lt RowAt.cell RowAt.frozen RowAt.below RowAt.drew RowAt.new RowAt.alloc gdrew gset gbelow galloc grefl gfinal cells2 cells4 results_cell Bl bl_ne wp_region_bl bl_call bl_same)
set_option maxHeartbeats 8000000 in
set_option maxRecDepth 20000 in
theorem rmay_walk (o : Option Addr) (n cp : Nat) (c0 c1 c2 c3 c5 c6 c7 c8 c9 c10 c11 : Int) (cs : Bool) (h : Int) (w : World) (E1 E2 : Int) (s0 s1 s2 : Int) (su is : Bool) (R : Int)
    (k1 : ∀ W : World, Below w.heap.size w W → Calls Try.prog 18 #[.slice o n cp] W fun e w' => e = .returned (.int .i64 E1) ∧ Below W.heap.size W w')
    (k2 : ∀ W : World, Calls Try.prog 38 #[.agg #[.int .u8 c0, .int .i64 c1, .int .u64 c2, .int .i64 c3, .bool cs, .int .u64 c5, .int .u64 c6, .int .i64 c7, .int .u8 c8, .int .i64 c9, .int .i64 c10, .int .i64 c11]] W fun e w' => e = .returned (.int .i64 E2) ∧ Below W.heap.size W w')
    (k3 : ∀ W : World, Below w.heap.size w W → Calls Try.prog 15 #[.slice o n cp, .int .i64 c1] W fun e w' => e = .returned (.tuple #[.agg #[.int .i64 s0, .int .u64 s1, .int .i64 s2, .bool su], .bool is]) ∧ Below W.heap.size W w')
    (A1 : E1 ≠ 0 → Hid (R = 2)) (A2 : E2 ≠ 0 → Hid (R = 2)) (A3 : E1 = 0 → E2 = 0 → (h < -1 ∨ 1099511627776 < h) → Hid (R = 1))
    (A4 : E1 = 0 → E2 = 0 → ¬ (h < -1 ∨ 1099511627776 < h) → (0 ≤ s1 ∧ s1 ≤ 1099511627776) ∧ (n : Int) ≤ 64 ∧
      ((is = false ∧ c0 ≠ 1 → Hid (R = 14)) ∧ (¬ (is = false ∧ c0 ≠ 1) → c2 ≠ s1 + 1 → Hid (R = 12)) ∧ (¬ (is = false ∧ c0 ≠ 1) → c2 = s1 + 1 → (c3 < s2 ∨ c3 ≤ h) → Hid (R = 13))
      ∧ (¬ (is = false ∧ c0 ≠ 1) → c2 = s1 + 1 → ¬ (c3 < s2 ∨ c3 ≤ h) → decide (c0 = 1) = su → Hid (R = 10))
      ∧ (¬ (is = false ∧ c0 ≠ 1) → c2 = s1 + 1 → ¬ (c3 < s2 ∨ c3 ≤ h) → decide (c0 = 1) ≠ su → (is = false ∧ (n : Int) = 64) → Hid (R = 8))
      ∧ (¬ (is = false ∧ c0 ≠ 1) → c2 = s1 + 1 → ¬ (c3 < s2 ∨ c3 ≤ h) → decide (c0 = 1) ≠ su → ¬ (is = false ∧ (n : Int) = 64) → Hid (R = 0)))) :
    Calls Try.prog 20 #[.slice o n cp, .agg #[.int .u8 c0, .int .i64 c1, .int .u64 c2, .int .i64 c3, .bool cs, .int .u64 c5, .int .u64 c6, .int .i64 c7, .int .u8 c8, .int .i64 c9, .int .i64 c10, .int .i64 c11], .int .i64 h] w fun e w' => e = .returned (.int .i64 R) ∧ Below w.heap.size w w' := by
  obtain ⟨X, hX⟩ : ∃ X, X = w.alloc (.cells #[.int .u8 c0, .int .i64 c1, .int .u64 c2, .int .i64 c3, .bool cs, .int .u64 c5, .int .u64 c6, .int .i64 c7, .int .u8 c8, .int .i64 c9, .int .i64 c10, .int .i64 c11] 39) := ⟨_, rfl⟩
  have hB : Below w.heap.size w X := by rw [hX]; exact below_new (Below.refl _ _) _
  have r0 : RowAt X w.heap.size [.int .u8 c0, .int .i64 c1, .int .u64 c2, .int .i64 c3, .bool cs, .int .u64 c5, .int .u64 c6, .int .i64 c7, .int .u8 c8, .int .i64 c9, .int .i64 c10, .int .i64 c11] 39 := by rw [hX]; exact RowAt.new _ _ _
  go_enter Try.func20, Try.ntmps20
  go_upto_region 1 with fail
  rw [← hX]
  clear hX
  go_wp2_with fail
  go_at_call 18; refine (k1 _ hB).mono ?_; rintro e w1 ⟨rfl, hb1⟩
  replace hB := below2 hB hb1
  replace r0 := RowAt.below r0 hb1
  clear hb1 k1
  obtain ⟨⟨y0, y1, y2, y3, y4, y5⟩, ⟨y6, y7, y8, y9, y10, y11⟩, yf, hly⟩ := cells12' r0
  by_cases z1 : E1 = 0
  rotate_left
  · have HV := A1 z1
    have q1 : (E1 == 0) = false := beq_eq_false_iff_ne.2 z1
    have q2 : (E1 != 0) = true := bne_iff_ne.2 z1
    clear A1 A2 A3 A4 z1 y0 y1 y2 y3 y4 y5 y6 y7 y8 y9 y10 y11 yf hly r0
    go_wp2_with fail
    go_ret
    exact ⟨by rw [HV.out]; rfl, hB⟩
  replace A3 := A3 z1
  replace A4 := A4 z1
  subst z1
  clear A1
  go_wp2_with fail
  go_at_call 38; refine (k2 _).mono ?_; rintro e w2 ⟨rfl, hb2⟩
  replace hB := below2 hB hb2
  replace r0 := RowAt.below r0 hb2
  clear y0 y1 y2 y3 y4 y5 y6 y7 y8 y9 y10 y11 yf hly hb2 k2
  obtain ⟨⟨y0, y1, y2, y3, y4, y5⟩, ⟨y6, y7, y8, y9, y10, y11⟩, yf, hly⟩ := cells12' r0
  by_cases z2 : E2 = 0
  rotate_left
  · have HV := A2 z2
    have q1 : (E2 == 0) = false := beq_eq_false_iff_ne.2 z2
    have q2 : (E2 != 0) = true := bne_iff_ne.2 z2
    clear A2 A3 A4 z2 y0 y1 y2 y3 y4 y5 y6 y7 y8 y9 y10 y11 yf hly r0
    go_wp2_with fail
    go_ret
    exact ⟨by rw [HV.out]; rfl, hB⟩
  replace A3 := A3 z2
  replace A4 := A4 z2
  subst z2
  clear A2
  by_cases z3 : h < -1
  · have HV := A3 (.inl z3)
    have q1 : decide (h < -1) = true := decide_eq_true z3
    clear A3 A4 y0 y1 y2 y3 y4 y5 y6 y7 y8 y9 y10 y11 yf hly r0
    go_wp2_with fail
    go_ret
    exact ⟨by rw [HV.out]; rfl, hB⟩
  by_cases z4 : 1099511627776 < h
  · have HV := A3 (.inr z4)
    have q1 : decide (h < -1) = false := decide_eq_false z3
    have q2 : decide (1099511627776 < h) = true := decide_eq_true z4
    clear A3 A4 y0 y1 y2 y3 y4 y5 y6 y7 y8 y9 y10 y11 yf hly r0
    go_wp2_with fail
    go_ret
    exact ⟨by rw [HV.out]; rfl, hB⟩
  obtain ⟨hs, hn, H1, H2, H3, H4, H5, H6⟩ := A4 (fun c => c.elim z3 z4)
  have p1 : decide (h < -1) = false := decide_eq_false z3
  have p2 : decide (1099511627776 < h) = false := decide_eq_false z4
  clear A3 A4 z3 z4
  have hwr : IntKind.u64.wrap (s1 + 1) = s1 + 1 := by rw [IntKind.wrap_u64]; omega
  go_upto_region 5 with fail
  clear p1 p2
  go_wp2_with fail
  go_at_call 15; refine (k3 _ hB).mono ?_; rintro e w3 ⟨rfl, hb1⟩
  replace hB := below2 hB hb1
  replace r0 := RowAt.below r0 hb1
  clear hb1 k3 y0 y1 y2 y3 y4 y5 y6 y7 y8 y9 y10 y11 yf hly
  obtain ⟨⟨y0, y1, y2, y3, y4, y5⟩, ⟨y6, y7, y8, y9, y10, y11⟩, yf, hly⟩ := cells12' r0
  go_upto_region 6 with fail
  obtain ⟨Y, hY⟩ : ∃ Y, Y = w3.alloc (.cells #[.int .i64 s0, .int .u64 s1, .int .i64 s2, .bool su] 48) := ⟨_, rfl⟩
  have hbY : Below w3.heap.size w3 Y := by rw [hY]; exact below_new (Below.refl _ _) _
  have r1 : RowAt Y w3.heap.size [.int .i64 s0, .int .u64 s1, .int .i64 s2, .bool su] 48 := by rw [hY]; exact RowAt.new _ _ _
  rw [← hY]
  replace r0 := RowAt.below r0 hbY
  replace hB := below2 hB hbY
  clear hY hbY y0 y1 y2 y3 y4 y5 y6 y7 y8 y9 y10 y11 yf hly
  generalize w3.heap.size = g1 at r1 ⊢
  obtain ⟨⟨y0, y1, y2, y3, y4, y5⟩, ⟨y6, y7, y8, y9, y10, y11⟩, yf, hly⟩ := cells12' r0
  obtain ⟨x0, x1, x2, x3, xf⟩ := cells4 r1
  clear r0 r1
  generalize hs1 : s1 + 1 = t1 at *
  by_cases b1 : is = false ∧ c0 ≠ 1
  · have HV := H1 b1
    obtain ⟨rfl, b2⟩ := b1
    have q1 : (c0 == 1) = false := beq_eq_false_iff_ne.2 b2
    have q1' : (c0 != 1) = true := bne_iff_ne.2 b2
    clear H1 H2 H3 H4 H5 H6 b2
    go_wp2_with fail
    go_ret
    exact ⟨by rw [HV.out]; rfl, hB⟩
  replace H2 := H2 b1
  replace H3 := H3 b1
  replace H4 := H4 b1
  replace H5 := H5 b1
  replace H6 := H6 b1
  clear H1
  have hc : (is = true ∧ ((c0 == 1) = false ∨ c0 = 1)) ∨ (is = false ∧ c0 = 1) := by
    by_cases b2 : c0 = 1
    · cases is
      · exact .inr ⟨rfl, b2⟩
      · exact .inl ⟨rfl, .inr b2⟩
    · cases is
      · exact absurd ⟨rfl, b2⟩ b1
      · exact .inl ⟨rfl, .inl (beq_eq_false_iff_ne.2 b2)⟩
  clear b1
  by_cases b3 : c2 = t1
  · replace H3 := H3 b3
    replace H4 := H4 b3
    replace H5 := H5 b3
    replace H6 := H6 b3
    clear H2
    subst b3
    by_cases b4 : c3 < s2 ∨ c3 ≤ h
    · have HV := H3 b4
      clear H3 H4 H5 H6
      by_cases b5 : c3 < s2
      · have q3 : decide (c3 < s2) = true := decide_eq_true b5
        rcases hc with ⟨rfl, q1 | rfl⟩ | ⟨rfl, rfl⟩
        all_goals
          go_wp2_with fail
          go_ret
          exact ⟨by rw [HV.out]; rfl, hB⟩
      · have q3 : decide (c3 < s2) = false := decide_eq_false b5
        have q4 : decide (c3 ≤ h) = true := decide_eq_true (b4.resolve_left b5)
        rcases hc with ⟨rfl, q1 | rfl⟩ | ⟨rfl, rfl⟩
        all_goals
          go_wp2_with fail
          go_ret
          exact ⟨by rw [HV.out]; rfl, hB⟩
    · have q3 : decide (c3 < s2) = false := decide_eq_false (fun c => b4 (.inl c))
      have q4 : decide (c3 ≤ h) = false := decide_eq_false (fun c => b4 (.inr c))
      replace H4 := H4 b4
      replace H5 := H5 b4
      replace H6 := H6 b4
      clear H3 b4
      rcases hc with ⟨rfl, q1 | rfl⟩ | ⟨rfl, rfl⟩
      · have e1 : decide (c0 = 1) = false := decide_eq_false (beq_eq_false_iff_ne.1 q1)
        cases su
        · have HV := H4 e1
          clear H4 H5 H6 e1
          go_wp2_with fail
          go_ret
          exact ⟨by rw [HV.out]; rfl, hB⟩
        · have HV := H6 (by rw [e1]; decide) (fun c => absurd c.1 (by decide))
          clear H4 H5 H6 e1
          go_wp2_with fail
          go_ret
          exact ⟨by rw [HV.out]; rfl, hB⟩
      · cases su
        · have HV := H6 (by decide) (fun c => absurd c.1 (by decide))
          clear H4 H5 H6
          go_wp2_with fail
          go_ret
          exact ⟨by rw [HV.out]; rfl, hB⟩
        · have HV := H4 (by decide)
          clear H4 H5 H6
          go_wp2_with fail
          go_ret
          exact ⟨by rw [HV.out]; rfl, hB⟩
      · cases su
        · by_cases b6 : (n : Int) = 64
          · have HV := H5 (by decide) ⟨rfl, b6⟩
            have q6 : ((n : Int) == 64) = true := by rw [b6]; rfl
            have q7 : (n == 64) = true := by simp; omega
            clear H4 H5 H6 b6
            go_wp2_with fail
            go_ret
            exact ⟨by rw [HV.out]; rfl, hB⟩
          · have HV := H6 (by decide) (fun c => b6 c.2)
            have q6 : ((n : Int) == 64) = false := beq_eq_false_iff_ne.2 b6
            have q7 : (n == 64) = false := beq_eq_false_iff_ne.2 (by omega)
            clear H4 H5 H6 b6
            go_wp2_with fail
            go_ret
            exact ⟨by rw [HV.out]; rfl, hB⟩
        · have HV := H4 (by decide)
          clear H4 H5 H6
          go_wp2_with fail
          go_ret
          exact ⟨by rw [HV.out]; rfl, hB⟩
  · have HV := H2 b3
    have q2 : (c2 == t1) = false := beq_eq_false_iff_ne.2 b3
    have q3 : (c2 != t1) = true := bne_iff_ne.2 b3
    clear H2 H3 H4 H5 H6 b3
    rcases hc with ⟨rfl, q1 | rfl⟩ | ⟨rfl, rfl⟩
    all_goals
      go_wp2_with fail
      go_ret
      exact ⟨by rw [HV.out]; rfl, hB⟩
theorem rmay_any (l : List St) (v : Value) (e : Ev) (h : Int) (w : World) (hl : HasSts w v l) (hf : FitE e) :
    Calls Try.prog 20 #[v, evV e, .int .i64 h] w fun r w' => r = .returned (.int .i64 (mayL l e h)) ∧ Below w.heap.size w w' := by
  obtain ⟨o, c, rfl, hc1, hc2⟩ := HasRow.slice hl
  have e1 : checkL l = if okL l = true then 0 else 2 := rfl
  have e2 : checkE e = if okE e = true then 0 else 2 := rfl
  refine rmay_walk o l.length c _ _ _ _ _ _ _ _ _ _ _ _ h w (checkL l) (checkE e) (seatOf l e.router).router ((seatOf l e.router).seq : Int) (seatOf l e.router).time (seatOf l e.router).up (isIn l e.router) _ (fun W hb => rcheck_any l _ W (hl.keep hb)) (fun W => rcheckE_any e W hf) (fun W hb => rfind_any l _ e.router W (hl.keep hb)) ?_ ?_ ?_ ?_
  · intro h1
    have ha : askL l e h = 2 := by
      unfold askL
      cases hk : okL l with
      | true => rw [e1, hk] at h1; exact absurd rfl h1
      | false => rfl
    show _ = _
    unfold mayL
    rw [if_neg (by rw [ha]; decide), ha]
  · intro h1
    have ha : askL l e h = 2 := by
      unfold askL
      cases hk : okE e with
      | true => rw [e2, hk] at h1; exact absurd rfl h1
      | false => rw [Bool.and_false]; rfl
    show _ = _
    unfold mayL
    rw [if_neg (by rw [ha]; decide), ha]
  · intro h1 h2 h3
    have hk : okL l = true := by
      cases hk : okL l with
      | true => rfl
      | false => rw [e1, hk] at h1; exact absurd h1 (by decide)
    have hk2 : okE e = true := by
      cases hk : okE e with
      | true => rfl
      | false => rw [e2, hk] at h2; exact absurd h2 (by decide)
    have ha : askL l e h = 1 := by
      unfold askL
      rw [hk, hk2]
      show (if h < -1 ∨ 1099511627776 < h then (1 : Int) else 0) = 1
      rw [if_pos h3]
    show _ = _
    unfold mayL
    rw [if_neg (by rw [ha]; decide), ha]
  · intro h1 h2 h3
    have hk : okL l = true := by
      cases hk : okL l with
      | true => rfl
      | false => rw [e1, hk] at h1; exact absurd h1 (by decide)
    have hk2 : okE e = true := by
      cases hk : okE e with
      | true => rfl
      | false => rw [e2, hk] at h2; exact absurd h2 (by decide)
    have ha : askL l e h = 0 := by
      unfold askL
      rw [hk, hk2]
      show (if h < -1 ∨ 1099511627776 < h then (1 : Int) else 0) = 0
      rw [if_neg h3]
    have hm : mayL l e h = misL l e h := by unfold mayL; rw [if_pos ha]
    have hn := (okL_all hk).1
    refine ⟨seat_bd hk e.router, by omega, ?_⟩
    rw [hm]
    unfold misL
    generalize isIn l e.router = is
    generalize seatOf l e.router = s
    refine ⟨?_, ?_, ?_, ?_, ?_, ?_⟩
    · rintro ⟨h1, h2⟩
      show _ = _
      rw [if_pos ⟨h1, by omega⟩]
    · intro h1 h2
      show _ = _
      rw [if_neg (fun c => h1 ⟨c.1, by omega⟩), if_pos (by omega)]
    · intro h1 h2 h3
      show _ = _
      rw [if_neg (fun c => h1 ⟨c.1, by omega⟩), if_neg (by omega), if_pos h3]
    · intro h1 h2 h3 h4
      have h4' : decide (e.kind = 1) = s.up := by rw [← h4]; exact decide_eq_decide.2 (by omega)
      show _ = _
      rw [if_neg (fun c => h1 ⟨c.1, by omega⟩), if_neg (by omega), if_neg h3, if_pos h4']
    · intro h1 h2 h3 h4 h5
      have h4' : ¬ decide (e.kind = 1) = s.up := by intro c; apply h4; rw [← c]; exact decide_eq_decide.2 (by omega)
      show _ = _
      rw [if_neg (fun c => h1 ⟨c.1, by omega⟩), if_neg (by omega), if_neg h3, if_neg h4', if_pos ⟨h5.1, by omega⟩]
    · intro h1 h2 h3 h4 h5
      have h4' : ¬ decide (e.kind = 1) = s.up := by intro c; apply h4; rw [← c]; exact decide_eq_decide.2 (by omega)
      show _ = _
      rw [if_neg (fun c => h1 ⟨c.1, by omega⟩), if_neg (by omega), if_neg h3, if_neg h4', if_neg (fun c => h5 ⟨c.1, by omega⟩)]
end Go.Proofs.Ytckaajadajjijab.Ord
namespace Go.Proofs.Ytckaajadajjijab.Ord
open Go.RowKit Go.Shelf
open Go.Proofs.Ytckaajadajjijab.Msg (Ev okE checkE evV evC FitE echeck_any cells12' gkeep gsetO results_cell_tmp1)
open Go.Proofs.Ytckaajadajjijab.Addr (hiN loN RowAt below2 below_drew below_new bset RowAt.lt RowAt.cell RowAt.frozen RowAt.below RowAt.drew RowAt.new RowAt.alloc gdrew gset gbelow galloc grefl gfinal cells2 cells4 results_cell Bl bl_ne wp_region_bl bl_call bl_same)
attribute [-go_sem] Builtin.append_

theorem rows_kept {W W' : World} {g : Nat} {cs : List Value} {t : TypeId} {r : Option Nat} (h : RowAt W g cs t) (hg : W.grownBy W' r) (hne : some g ≠ r) : RowAt W' g cs t := (hg.block g h.lt hne).trans h
set_option maxHeartbeats 16000000 in
set_option maxRecDepth 20000 in
theorem rnext_yes (o : Option Addr) (n cp : Nat) (l : List St) (c0 c1 c2 c3 c5 c6 c7 c8 c9 c10 c11 : Int) (cs : Bool) (h : Int) (w : World) (s9 : St)
    (hl : HasSts w (.slice o n cp) l) (HN : Hid (n = l.length)) (hn64 : (n : Int) ≤ 64) (hcp : n ≤ cp ∧ cp ≤ 9223372036854775807)
    (HS9 : Hid (c1 = s9.router ∧ c2 = (s9.seq : Int) ∧ c3 = s9.time ∧ (c0 != 2) = s9.up))
    (k1 : ∀ W : World, Below w.heap.size w W → Calls Try.prog 20 #[.slice o n cp, .agg #[.int .u8 c0, .int .i64 c1, .int .u64 c2, .int .i64 c3, .bool cs, .int .u64 c5, .int .u64 c6, .int .i64 c7, .int .u8 c8, .int .i64 c9, .int .i64 c10, .int .i64 c11], .int .i64 h] W fun e w' => e = .returned (.int .i64 0) ∧ Below W.heap.size W w')
    (R : Int) (HR : Hid (R = 0)) (G : World → Value → Prop) (HFIN : Hid (∀ (W : World) (u : Value), HasSts W u (ahead l c1 ++ ([s9] ++ behind l c1)) → G W u)) :
    Calls Try.prog 13 #[.slice o n cp, .agg #[.int .u8 c0, .int .i64 c1, .int .u64 c2, .int .i64 c3, .bool cs, .int .u64 c5, .int .u64 c6, .int .i64 c7, .int .u8 c8, .int .i64 c9, .int .i64 c10, .int .i64 c11], .int .i64 h] w fun e w' => ∃ u, e = .returned (.tuple #[u, .int .i64 R]) ∧ G w' u ∧ Below w.heap.size w w' := by
  have HL0 : Hid (∀ W : World, Below w.heap.size w W → HasSts W (.slice o n cp) l) := fun W hb => hl.keep hb
  obtain ⟨X, hX⟩ : ∃ X, X = w.alloc (.cells #[.int .u8 c0, .int .i64 c1, .int .u64 c2, .int .i64 c3, .bool cs, .int .u64 c5, .int .u64 c6, .int .i64 c7, .int .u8 c8, .int .i64 c9, .int .i64 c10, .int .i64 c11] 39) := ⟨_, rfl⟩
  have hB : Below w.heap.size w X := by rw [hX]; exact below_new (Below.refl _ _) _
  have r0 : RowAt X w.heap.size [.int .u8 c0, .int .i64 c1, .int .u64 c2, .int .i64 c3, .bool cs, .int .u64 c5, .int .u64 c6, .int .i64 c7, .int .u8 c8, .int .i64 c9, .int .i64 c10, .int .i64 c11] 39 := by rw [hX]; exact RowAt.new _ _ _
  clear hl
  go_enter Try.func13, Try.ntmps13
  go_upto_region 1 with fail
  rw [← hX]
  clear hX
  obtain ⟨⟨y0, y1, y2, y3, y4, y5⟩, ⟨y6, y7, y8, y9, y10, y11⟩, yf, hly⟩ := cells12' r0
  go_wp2_with fail
  go_at_call 20; refine (k1 _ hB).mono ?_; rintro e w1 ⟨rfl, hb⟩
  replace hB := below2 hB hb
  replace r0 := RowAt.below r0 hb
  clear hb k1 y0 y1 y2 y3 y4 y5 y6 y7 y8 y9 y10 y11 yf hly
  obtain ⟨g4, hg4⟩ : ∃ g, g = w.heap.size := ⟨_, rfl⟩
  rw [← hg4] at r0 ⊢
  clear hg4
  obtain ⟨⟨y0, y1, y2, y3, y4, y5⟩, ⟨y6, y7, y8, y9, y10, y11⟩, yf, hly⟩ := cells12' r0
  go_upto_region 7 with fail
  obtain ⟨Z, hZ⟩ : ∃ Z, Z = w1.alloc (.cells #[.int .i64 c1, .int .u64 c2, .int .i64 c3, .bool (c0 != 2)] 48) := ⟨_, rfl⟩
  have hb : Below w1.heap.size w1 Z := by rw [hZ]; exact below_new (Below.refl _ _) _
  have r9 : RowAt Z w1.heap.size [.int .i64 c1, .int .u64 c2, .int .i64 c3, .bool (c0 != 2)] 48 := by rw [hZ]; exact RowAt.new _ _ _
  rw [← hZ]
  replace r0 := RowAt.below r0 hb
  replace hB := below2 hB hb
  clear hb hZ y0 y1 y2 y3 y4 y5 y6 y7 y8 y9 y10 y11 yf hly
  obtain ⟨g9, hg9⟩ : ∃ g, g = w1.heap.size := ⟨_, rfl⟩
  rw [← hg9] at r9 ⊢
  clear hg9
  obtain ⟨B, hBz⟩ : ∃ B, B = Z.heap.size := ⟨_, rfl⟩
  have HG4 : Hid (g4 < B) := by rw [hBz]; exact RowAt.lt r0
  have HG9 : Hid (g9 < B) := by rw [hBz]; exact RowAt.lt r9
  have HWB : Hid (w.heap.size ≤ B) := by rw [hBz]; exact hB.size
  have HZB : Hid (B ≤ Z.heap.size) := by rw [hBz]; exact Nat.le_refl _
  clear hBz
  go_wp2_with fail
  go_loopw [10, 44] (fun s i wr => ∃ k : Nat, k ≤ n ∧ i = .int .i64 k ∧ Below w.heap.size w wr ∧ Hid (RowAt wr g4 [.int .u8 c0, .int .i64 c1, .int .u64 c2, .int .i64 c3, .bool cs, .int .u64 c5, .int .u64 c6, .int .i64 c7, .int .u8 c8, .int .i64 c9, .int .i64 c10, .int .i64 c11] 39) ∧ Hid (RowAt wr g9 [.int .i64 c1, .int .u64 c2, .int .i64 c3, .bool (c0 != 2)] 48) ∧ Hid (B ≤ wr.heap.size) ∧ Hid (wr.ownsRow B 48 4 s (ahead (l.take k) c1).length (stCs (ahead (l.take k) c1)))) (fun _ i _ => n - (intOf i).toNat)
  case atStart => exact ⟨0, by omega, rfl, hB, r0, r9, HZB, World.ownsRow_nil _ _ _ _⟩
  case round =>
    obtain ⟨k, hk, rfl, hBr, HR4, HR9, HBB, HO⟩ := hrel
    have hh := HL0.out wr hBr
    by_cases hlt : k < n
    · have hkz : k < l.length := by rw [← HN.out]; exact hlt
      have hstep : ahead (l.take (k + 1)) c1 = ahead (l.take k) c1 ++ (if decide (l[k].router < c1) then [l[k]] else []) := by
        unfold ahead
        rw [List.take_succ_eq_append_getElem hkz, List.filter_append, List.filter_cons, List.filter_nil]
      have hlen : (ahead (l.take k) c1).length ≤ 300 := by
        have h1 : (ahead (l.take k) c1).length ≤ n := by
          unfold ahead
          refine Nat.le_trans (List.length_filter_le _ _) ?_
          rw [List.length_take]; omega
        skip
        skip
        omega
      have HB1 : Hid (decide (l[k].router < c1) = true → (ahead (l.take (k + 1)) c1) = (ahead (l.take k) c1) ++ [l[k]]) := fun e => by rw [hstep, e]; rfl
      have HB2 : Hid (decide (l[k].router < c1) = false → (ahead (l.take (k + 1)) c1) = (ahead (l.take k) c1)) := fun e => by rw [hstep, e]; simp
      obtain ⟨g1, i1, ho, hg1, a0, a1, a2, a3⟩ := HasSts.cell hh k hkz
      have hki : (k : Int) < (n : Int) := by omega
      obtain ⟨s0, hs0⟩ : ∃ s0 : St, s0 = l[k] := ⟨_, rfl⟩
      rw [← hs0] at a0 a1 a2 a3 HB1 HB2
      clear hs0 hstep hg1 hh
      have r0 := HR4.out
      have r9 := HR9.out
      clear HR4 HR9
      subst ho
      go_upto_region 11 with fail
      obtain ⟨X, hX⟩ : ∃ X, X = wr.alloc (.cells #[.int .i64 s0.router, .int .u64 (s0.seq : Int), .int .i64 s0.time, .bool s0.up] 48) := ⟨_, rfl⟩
      have hb : Below wr.heap.size wr X := by rw [hX]; exact below_new (Below.refl _ _) _
      have rs : RowAt X wr.heap.size [.int .i64 s0.router, .int .u64 (s0.seq : Int), .int .i64 s0.time, .bool s0.up] 48 := by rw [hX]; exact RowAt.new _ _ _
      rw [← hX]
      replace r0 := RowAt.below r0 hb
      replace r9 := RowAt.below r9 hb
      have hB2 := below2 hBr hb
      have hO2 := own_below HO.out hb
      have HBX : Hid (B ≤ X.heap.size) := Nat.le_trans HBB.out hb.size
      clear hX hb a0 a1 a2 a3 hBr HO HBB
      obtain ⟨gs, hgs⟩ : ∃ g, g = wr.heap.size := ⟨_, rfl⟩
      rw [← hgs] at rs ⊢
      clear hgs
      obtain ⟨x0, x1, x2, x3, xf⟩ := cells4 rs
      obtain ⟨⟨y0, y1, y2, y3, y4, y5⟩, ⟨y6, y7, y8, y9, y10, y11⟩, yf, hly⟩ := cells12' r0
      cases hd : decide (s0.router < c1)
      · have HO3 : Hid (X.ownsRow B 48 4 u10 (ahead (l.take (k + 1)) c1).length (stCs (ahead (l.take (k + 1)) c1))) := by
          show X.ownsRow _ _ _ _ _ _
          rw [HB2.out hd]; exact hO2
        have HR4 : Hid (RowAt X g4 [.int .u8 c0, .int .i64 c1, .int .u64 c2, .int .i64 c3, .bool cs, .int .u64 c5, .int .u64 c6, .int .i64 c7, .int .u8 c8, .int .i64 c9, .int .i64 c10, .int .i64 c11] 39) := r0
        have HR9 : Hid (RowAt X g9 [.int .i64 c1, .int .u64 c2, .int .i64 c3, .bool (c0 != 2)] 48) := r9
        clear HB1 HB2 hO2 r0 r9 rs
        go_wp2_with fail
        go_roundw
        case rel => exact ⟨k + 1, by omega, by go_num, hB2, HR4, HR9, HBX, HO3⟩
        case measure => simp [intOf]; omega
      · obtain ⟨Y, hY⟩ : ∃ Y, Y = X.alloc (.cells #[.int .i64 s0.router, .int .u64 (s0.seq : Int), .int .i64 s0.time, .bool s0.up] 48) := ⟨_, rfl⟩
        have hbY : Below X.heap.size X Y := by rw [hY]; exact below_new (Below.refl _ _) _
        have hOY := own_below hO2 hbY
        have hsrc : HasSts Y (.slice (some ⟨X.heap.size, 0, none⟩) 1 1) [s0] := by rw [hY]; exact one_has X s0
        have hBY := below2 hB2 hbY
        have hBBY := Nat.le_trans HBX.out hbY.size
        obtain ⟨v', w3, hrun, ho3, hg3⟩ := append_row info_seat Try.underlying44 rfl (by decide) hOY hsrc (one_seats [s0]) (by simp only [List.length_cons, List.length_nil]; omega) (by simp only [List.length_cons, List.length_nil]; omega) hBBY
        have hB3 : Below w.heap.size w w3 := hBY.grown hg3 hBY.size (fun k e => Nat.le_trans HWB.out (hOY.lt k e).1)
        have HB3 : Hid (B ≤ w3.heap.size) := Nat.le_trans hBBY hg3.size
        replace r0 := rows_kept (RowAt.below r0 hbY) hg3 (fun e => by have := (hOY.lt g4 e.symm).1; have := HG4.out; omega)
        replace r9 := rows_kept (RowAt.below r9 hbY) hg3 (fun e => by have := (hOY.lt g9 e.symm).1; have := HG9.out; omega)
        have HO3 : Hid (w3.ownsRow B 48 4 v' (ahead (l.take (k + 1)) c1).length (stCs (ahead (l.take (k + 1)) c1))) := by
          show w3.ownsRow _ _ _ _ _ _
          rw [HB1.out hd, stCs_app, List.length_append]; exact ho3
        have HR4 : Hid (RowAt w3 g4 [.int .u8 c0, .int .i64 c1, .int .u64 c2, .int .i64 c3, .bool cs, .int .u64 c5, .int .u64 c6, .int .i64 c7, .int .u8 c8, .int .i64 c9, .int .i64 c10, .int .i64 c11] 39) := r0
        have HR9 : Hid (RowAt w3 g9 [.int .i64 c1, .int .u64 c2, .int .i64 c3, .bool (c0 != 2)] 48) := r9
        rw [hY] at hrun
        clear HB1 HB2 hO2 r0 r9 rs hOY hsrc hBY hbY hBBY ho3 hg3 HBX
        go_wp2_with fail
        go_roundw
        case rel => exact ⟨k + 1, by omega, by go_num, hB3, HR4, HR9, HB3, HO3⟩
        case measure => simp [intOf]; omega
    · obtain rfl : k = n := by omega
      have htk : l.take k = l := List.take_of_length_le (by rw [← HN.out]; exact Nat.le_refl _)
      rw [htk] at HO
      clear htk hh
      have r0 := HR4.out
      have r9 := HR9.out
      clear HR4 HR9
      obtain ⟨x0, x1, x2, x3, xf⟩ := cells4 r9
      obtain ⟨Y, hY⟩ : ∃ Y, Y = wr.alloc (.cells #[.int .i64 c1, .int .u64 c2, .int .i64 c3, .bool (c0 != 2)] 48) := ⟨_, rfl⟩
      have hbY : Below wr.heap.size wr Y := by rw [hY]; exact below_new (Below.refl _ _) _
      have hOY := own_below HO.out hbY
      have hsrc : HasSts Y (.slice (some ⟨wr.heap.size, 0, none⟩) 1 1) [s9] := by rw [hY, HS9.out.1, HS9.out.2.1, HS9.out.2.2.1, HS9.out.2.2.2]; exact one_has wr s9
      have hBY := below2 hBr hbY
      have hBBY := Nat.le_trans HBB.out hbY.size
      have hla : (ahead l c1).length ≤ k := by rw [HN.out]; exact (seats_len l c1).1
      obtain ⟨v', w3, hrun, ho3, hg3⟩ := append_row info_seat Try.underlying44 rfl (by decide) hOY hsrc (one_seats [s9]) (by simp only [List.length_cons, List.length_nil]; omega) (by simp only [List.length_cons, List.length_nil]; omega) hBBY
      have hB5 : Below w.heap.size w w3 := hBY.grown hg3 hBY.size (fun k e => Nat.le_trans HWB.out (hOY.lt k e).1)
      have HB5 : Hid (B ≤ w3.heap.size) := Nat.le_trans hBBY hg3.size
      replace r0 := rows_kept (RowAt.below r0 hbY) hg3 (fun e => by have := (hOY.lt g4 e.symm).1; have := HG4.out; omega)
      replace r9 := rows_kept (RowAt.below r9 hbY) hg3 (fun e => by have := (hOY.lt g9 e.symm).1; have := HG9.out; omega)
      have HO5 : Hid (w3.ownsRow B 48 4 v' (ahead l c1 ++ [s9] ++ behind (l.take 0) c1).length (stCs (ahead l c1 ++ [s9] ++ behind (l.take 0) c1))) := by
        show w3.ownsRow _ _ _ _ _ _
        rw [show ahead l c1 ++ [s9] ++ behind (l.take 0) c1 = ahead l c1 ++ [s9] from by simp [behind], stCs_app, List.length_append]
        exact ho3
      rw [hY] at hrun
      clear hOY hsrc hBY hbY hBBY ho3 hg3 HBB HO hBr hla
      go_wp2_with fail
      obtain ⟨n, hkn⟩ : ∃ n, n = k := ⟨_, rfl⟩
      subst hkn
      go_loopw [10, 64] (fun s i wr => ∃ k : Nat, k ≤ n ∧ i = .int .i64 k ∧ Below w.heap.size w wr ∧ Hid (RowAt wr g4 [.int .u8 c0, .int .i64 c1, .int .u64 c2, .int .i64 c3, .bool cs, .int .u64 c5, .int .u64 c6, .int .i64 c7, .int .u8 c8, .int .i64 c9, .int .i64 c10, .int .i64 c11] 39) ∧ Hid (RowAt wr g9 [.int .i64 c1, .int .u64 c2, .int .i64 c3, .bool (c0 != 2)] 48) ∧ Hid (B ≤ wr.heap.size) ∧ Hid (wr.ownsRow B 48 4 s (ahead l c1 ++ [s9] ++ behind (l.take k) c1).length (stCs (ahead l c1 ++ [s9] ++ behind (l.take k) c1)))) (fun _ i _ => n - (intOf i).toNat)
      case atStart => exact ⟨0, by omega, rfl, hB5, r0, r9, HB5, HO5⟩
      case round =>
        obtain ⟨k, hk, rfl, hBr, HR4, HR9, HBB, HO⟩ := hrel
        have hh := HL0.out wr hBr
        by_cases hlt : k < n
        · have hkz : k < l.length := by rw [← HN.out]; exact hlt
          have hstep : behind (l.take (k + 1)) c1 = behind (l.take k) c1 ++ (if decide (c1 < l[k].router) then [l[k]] else []) := by
            unfold behind
            rw [List.take_succ_eq_append_getElem hkz, List.filter_append, List.filter_cons, List.filter_nil]
          have hlen : (ahead l c1 ++ [s9] ++ behind (l.take k) c1).length ≤ 300 := by
            have h1 : (behind (l.take k) c1).length ≤ n := by
              unfold behind
              refine Nat.le_trans (List.length_filter_le _ _) ?_
              rw [List.length_take]; omega
            have h2 : (ahead l c1).length ≤ n := by rw [HN.out]; exact (seats_len l c1).1
            simp only [List.length_append, List.length_cons, List.length_nil]
            omega
          have HB1 : Hid (decide (c1 < l[k].router) = true → (ahead l c1 ++ [s9] ++ behind (l.take (k + 1)) c1) = (ahead l c1 ++ [s9] ++ behind (l.take k) c1) ++ [l[k]]) := fun e => by rw [hstep, e]; simp
          have HB2 : Hid (decide (c1 < l[k].router) = false → (ahead l c1 ++ [s9] ++ behind (l.take (k + 1)) c1) = (ahead l c1 ++ [s9] ++ behind (l.take k) c1)) := fun e => by rw [hstep, e]; simp
          obtain ⟨g1, i1, ho, hg1, a0, a1, a2, a3⟩ := HasSts.cell hh k hkz
          have hki : (k : Int) < (n : Int) := by omega
          obtain ⟨s0, hs0⟩ : ∃ s0 : St, s0 = l[k] := ⟨_, rfl⟩
          rw [← hs0] at a0 a1 a2 a3 HB1 HB2
          clear hs0 hstep hg1 hh
          have r0 := HR4.out
          have r9 := HR9.out
          clear HR4 HR9
          subst ho
          go_upto_region 18 with fail
          obtain ⟨X, hX⟩ : ∃ X, X = wr.alloc (.cells #[.int .i64 s0.router, .int .u64 (s0.seq : Int), .int .i64 s0.time, .bool s0.up] 48) := ⟨_, rfl⟩
          have hb : Below wr.heap.size wr X := by rw [hX]; exact below_new (Below.refl _ _) _
          have rs : RowAt X wr.heap.size [.int .i64 s0.router, .int .u64 (s0.seq : Int), .int .i64 s0.time, .bool s0.up] 48 := by rw [hX]; exact RowAt.new _ _ _
          rw [← hX]
          replace r0 := RowAt.below r0 hb
          replace r9 := RowAt.below r9 hb
          have hB2 := below2 hBr hb
          have hO2 := own_below HO.out hb
          have HBX : Hid (B ≤ X.heap.size) := Nat.le_trans HBB.out hb.size
          clear hX hb a0 a1 a2 a3 hBr HO HBB
          obtain ⟨gs, hgs⟩ : ∃ g, g = wr.heap.size := ⟨_, rfl⟩
          rw [← hgs] at rs ⊢
          clear hgs
          obtain ⟨x0, x1, x2, x3, xf⟩ := cells4 rs
          obtain ⟨⟨y0, y1, y2, y3, y4, y5⟩, ⟨y6, y7, y8, y9, y10, y11⟩, yf, hly⟩ := cells12' r0
          cases hd : decide (c1 < s0.router)
          · have HO3 : Hid (X.ownsRow B 48 4 u10 (ahead l c1 ++ [s9] ++ behind (l.take (k + 1)) c1).length (stCs (ahead l c1 ++ [s9] ++ behind (l.take (k + 1)) c1))) := by
              show X.ownsRow _ _ _ _ _ _
              rw [HB2.out hd]; exact hO2
            have HR4 : Hid (RowAt X g4 [.int .u8 c0, .int .i64 c1, .int .u64 c2, .int .i64 c3, .bool cs, .int .u64 c5, .int .u64 c6, .int .i64 c7, .int .u8 c8, .int .i64 c9, .int .i64 c10, .int .i64 c11] 39) := r0
            have HR9 : Hid (RowAt X g9 [.int .i64 c1, .int .u64 c2, .int .i64 c3, .bool (c0 != 2)] 48) := r9
            clear HB1 HB2 hO2 r0 r9 rs
            go_wp2_with fail
            go_roundw
            case rel => exact ⟨k + 1, by omega, by go_num, hB2, HR4, HR9, HBX, HO3⟩
            case measure => simp [intOf]; omega
          · obtain ⟨Y, hY⟩ : ∃ Y, Y = X.alloc (.cells #[.int .i64 s0.router, .int .u64 (s0.seq : Int), .int .i64 s0.time, .bool s0.up] 48) := ⟨_, rfl⟩
            have hbY : Below X.heap.size X Y := by rw [hY]; exact below_new (Below.refl _ _) _
            have hOY := own_below hO2 hbY
            have hsrc : HasSts Y (.slice (some ⟨X.heap.size, 0, none⟩) 1 1) [s0] := by rw [hY]; exact one_has X s0
            have hBY := below2 hB2 hbY
            have hBBY := Nat.le_trans HBX.out hbY.size
            obtain ⟨v', w3, hrun, ho3, hg3⟩ := append_row info_seat Try.underlying44 rfl (by decide) hOY hsrc (one_seats [s0]) (by simp only [List.length_cons, List.length_nil]; omega) (by simp only [List.length_cons, List.length_nil]; omega) hBBY
            have hB3 : Below w.heap.size w w3 := hBY.grown hg3 hBY.size (fun k e => Nat.le_trans HWB.out (hOY.lt k e).1)
            have HB3 : Hid (B ≤ w3.heap.size) := Nat.le_trans hBBY hg3.size
            replace r0 := rows_kept (RowAt.below r0 hbY) hg3 (fun e => by have := (hOY.lt g4 e.symm).1; have := HG4.out; omega)
            replace r9 := rows_kept (RowAt.below r9 hbY) hg3 (fun e => by have := (hOY.lt g9 e.symm).1; have := HG9.out; omega)
            have HO3 : Hid (w3.ownsRow B 48 4 v' (ahead l c1 ++ [s9] ++ behind (l.take (k + 1)) c1).length (stCs (ahead l c1 ++ [s9] ++ behind (l.take (k + 1)) c1))) := by
              show w3.ownsRow _ _ _ _ _ _
              rw [HB1.out hd, stCs_app, List.length_append]; exact ho3
            have HR4 : Hid (RowAt w3 g4 [.int .u8 c0, .int .i64 c1, .int .u64 c2, .int .i64 c3, .bool cs, .int .u64 c5, .int .u64 c6, .int .i64 c7, .int .u8 c8, .int .i64 c9, .int .i64 c10, .int .i64 c11] 39) := r0
            have HR9 : Hid (RowAt w3 g9 [.int .i64 c1, .int .u64 c2, .int .i64 c3, .bool (c0 != 2)] 48) := r9
            rw [hY] at hrun
            clear HB1 HB2 hO2 r0 r9 rs hOY hsrc hBY hbY hBBY ho3 hg3 HBX
            go_wp2_with fail
            go_roundw
            case rel => exact ⟨k + 1, by omega, by go_num, hB3, HR4, HR9, HB3, HO3⟩
            case measure => simp [intOf]; omega
        · obtain rfl : k = n := by omega
          have htk : l.take k = l := List.take_of_length_le (by rw [← HN.out]; exact Nat.le_refl _)
          rw [htk] at HO
          clear htk hh
          go_wp2_with fail
          go_ret2
          exact ⟨u10, by rw [HR.out]; rfl, HFIN.out _ _ (by have := HO.out; rw [List.append_assoc] at this; exact hasRow_own this), hBr⟩
set_option maxHeartbeats 4000000 in
set_option maxRecDepth 20000 in
theorem rnext_bad (v : Value) (c0 c1 c2 c3 c5 c6 c7 c8 c9 c10 c11 : Int) (cs : Bool) (h : Int) (w : World) (y : Int) (hy : y = 2 ∨ y = 1)
    (k1 : ∀ W : World, Below w.heap.size w W → Calls Try.prog 20 #[v, .agg #[.int .u8 c0, .int .i64 c1, .int .u64 c2, .int .i64 c3, .bool cs, .int .u64 c5, .int .u64 c6, .int .i64 c7, .int .u8 c8, .int .i64 c9, .int .i64 c10, .int .i64 c11], .int .i64 h] W fun e w' => e = .returned (.int .i64 y) ∧ Below W.heap.size W w') :
    Calls Try.prog 13 #[v, .agg #[.int .u8 c0, .int .i64 c1, .int .u64 c2, .int .i64 c3, .bool cs, .int .u64 c5, .int .u64 c6, .int .i64 c7, .int .u8 c8, .int .i64 c9, .int .i64 c10, .int .i64 c11], .int .i64 h] w fun e w' => e = .returned (.tuple #[.slice none 0 0, .int .i64 y]) ∧ Below w.heap.size w w' := by
  obtain ⟨X, hX⟩ : ∃ X, X = w.alloc (.cells #[.int .u8 c0, .int .i64 c1, .int .u64 c2, .int .i64 c3, .bool cs, .int .u64 c5, .int .u64 c6, .int .i64 c7, .int .u8 c8, .int .i64 c9, .int .i64 c10, .int .i64 c11] 39) := ⟨_, rfl⟩
  have hB : Below w.heap.size w X := by rw [hX]; exact below_new (Below.refl _ _) _
  have r0 : RowAt X w.heap.size [.int .u8 c0, .int .i64 c1, .int .u64 c2, .int .i64 c3, .bool cs, .int .u64 c5, .int .u64 c6, .int .i64 c7, .int .u8 c8, .int .i64 c9, .int .i64 c10, .int .i64 c11] 39 := by rw [hX]; exact RowAt.new _ _ _
  go_enter Try.func13, Try.ntmps13
  go_upto_region 1 with fail
  rw [← hX]
  clear hX
  obtain ⟨⟨y0, y1, y2, y3, y4, y5⟩, ⟨y6, y7, y8, y9, y10, y11⟩, yf, hly⟩ := cells12' r0
  go_wp2_with fail
  go_at_call 20; refine (k1 _ hB).mono ?_; rintro e w1 ⟨rfl, hb⟩
  replace hB := below2 hB hb
  clear hb k1 y0 y1 y2 y3 y4 y5 y6 y7 y8 y9 y10 y11 yf hly r0
  rcases hy with rfl | rfl
  all_goals
    go_wp2_with fail
    go_ret2
    exact ⟨rfl, hB⟩
set_option maxHeartbeats 4000000 in
set_option maxRecDepth 20000 in
theorem rnext_no (o : Option Addr) (n cp : Nat) (l : List St) (c0 c1 c2 c3 c5 c6 c7 c8 c9 c10 c11 : Int) (cs : Bool) (h : Int) (w : World) (y : Int) (hy : y ≠ 0 ∧ y ≠ 1 ∧ y ≠ 2) (hl : HasSts w (.slice o n cp) l) (hn : n = l.length) (hn64 : n ≤ 64)
    (k1 : ∀ W : World, Below w.heap.size w W → Calls Try.prog 20 #[.slice o n cp, .agg #[.int .u8 c0, .int .i64 c1, .int .u64 c2, .int .i64 c3, .bool cs, .int .u64 c5, .int .u64 c6, .int .i64 c7, .int .u8 c8, .int .i64 c9, .int .i64 c10, .int .i64 c11], .int .i64 h] W fun e w' => e = .returned (.int .i64 y) ∧ Below W.heap.size W w') :
    Calls Try.prog 13 #[.slice o n cp, .agg #[.int .u8 c0, .int .i64 c1, .int .u64 c2, .int .i64 c3, .bool cs, .int .u64 c5, .int .u64 c6, .int .i64 c7, .int .u8 c8, .int .i64 c9, .int .i64 c10, .int .i64 c11], .int .i64 h] w fun e w' => ∃ u, e = .returned (.tuple #[u, .int .i64 y]) ∧ HasSts w' u l ∧ Below w.heap.size w w' := by
  obtain ⟨X, hX⟩ : ∃ X, X = w.alloc (.cells #[.int .u8 c0, .int .i64 c1, .int .u64 c2, .int .i64 c3, .bool cs, .int .u64 c5, .int .u64 c6, .int .i64 c7, .int .u8 c8, .int .i64 c9, .int .i64 c10, .int .i64 c11] 39) := ⟨_, rfl⟩
  have hB : Below w.heap.size w X := by rw [hX]; exact below_new (Below.refl _ _) _
  have r0 : RowAt X w.heap.size [.int .u8 c0, .int .i64 c1, .int .u64 c2, .int .i64 c3, .bool cs, .int .u64 c5, .int .u64 c6, .int .i64 c7, .int .u8 c8, .int .i64 c9, .int .i64 c10, .int .i64 c11] 39 := by rw [hX]; exact RowAt.new _ _ _
  have HL0 : Hid (∀ W : World, Below w.heap.size w W → HasSts W (.slice o n cp) l) := fun W hb => hl.keep hb
  have HN : Hid (n = l.length) := hn
  have q0 : (y == 0) = false := beq_eq_false_iff_ne.2 hy.1
  have q0' : (y != 0) = true := bne_iff_ne.2 hy.1
  have q1 : (y == 1) = false := beq_eq_false_iff_ne.2 hy.2.1
  have q2 : (y == 2) = false := beq_eq_false_iff_ne.2 hy.2.2
  clear hl hn hy
  go_enter Try.func13, Try.ntmps13
  go_upto_region 1 with fail
  rw [← hX]
  clear hX
  obtain ⟨⟨y0, y1, y2, y3, y4, y5⟩, ⟨y6, y7, y8, y9, y10, y11⟩, yf, hly⟩ := cells12' r0
  go_wp2_with fail
  go_at_call 20; refine (k1 _ hB).mono ?_; rintro e w1 ⟨rfl, hb⟩
  replace hB := below2 hB hb
  clear hb k1 y0 y1 y2 y3 y4 y5 y6 y7 y8 y9 y10 y11 yf hly r0
  have hbz := below_new (Below.refl _ w1) (.cells #[] 48)
  have hs := HL0.out _ (below2 hB hbz)
  obtain ⟨v', w3, hrun, ho3, hg3⟩ := append_row info_seat Try.underlying44 rfl (by decide) (empty_own w1 48 4) hs (one_seats l) (by rw [← HN.out]; omega) (by rw [← HN.out]; omega) (by simp)
  have hB3 : Below w1.heap.size w1 w3 := hbz.grown hg3 (by simp) (fun k e => by simp [Value.ownBlock] at e; omega)
  rw [Nat.zero_add, List.nil_append] at ho3
  have HO : Hid (HasSts w3 v' l) := hasRow_own ho3
  have hW := below2 hB hB3
  clear hs ho3 hg3 hB3 hbz hB HL0 HN
  go_wp2_with fail
  go_ret2
  exact ⟨v', rfl, HO.out, hW⟩
theorem mis_far (l : List St) (e : Ev) (h : Int) : misL l e h ≠ 1 ∧ misL l e h ≠ 2 := by
  unfold misL
  split
  · decide
  · split
    · decide
    · split
      · decide
      · split
        · decide
        · split <;> decide
theorem rnext_any (l : List St) (v : Value) (e : Ev) (h : Int) (w : World) (hl : HasSts w v l) (hf : FitE e) :
    Calls Try.prog 13 #[v, evV e, .int .i64 h] w fun r w' => ∃ u, r = .returned (.tuple #[u, .int .i64 (nextL l e h).2]) ∧ HasSts w' u (nextL l e h).1 ∧ Below w.heap.size w w' := by
  obtain ⟨o, c, rfl, hc1, hc2⟩ := HasRow.slice hl
  have k1 := fun (W : World) (hb : Below w.heap.size w W) => rmay_any l _ e h W (hl.keep hb) hf
  have hm := next_may l e h
  by_cases ha : askL l e h = 0
  · obtain ⟨hok, hoe, _, _⟩ := ask_ok ha
    have h64 := (okL_all hok).1
    have hmm : mayL l e h = misL l e h := by unfold mayL; rw [if_pos ha]
    by_cases hy : misL l e h = 0
    · have hnx : nextL l e h = (seatedL l ⟨e.router, e.seq, e.time, decide (e.kind ≠ 2)⟩, 0) := by unfold nextL; rw [if_pos ha, if_pos hy]
      rw [hnx]
      rw [hmm, hy] at k1
      refine rnext_yes o l.length c l _ _ _ _ _ _ _ _ _ _ _ _ h w ⟨e.router, e.seq, e.time, decide (e.kind ≠ 2)⟩ hl (rfl : l.length = l.length) (by omega) ⟨hc1, hc2⟩ ?_ k1 0 (rfl : (0 : Int) = 0) (fun W u => HasSts W u (seatedL l ⟨e.router, e.seq, e.time, decide (e.kind ≠ 2)⟩)) (fun W u hu => hu)
      show _ ∧ _ ∧ _ ∧ _
      refine ⟨rfl, rfl, rfl, ?_⟩
      show ((e.kind : Int) != 2) = decide (e.kind ≠ 2)
      rw [Bool.eq_iff_iff, bne_iff_ne, decide_eq_true_eq]; omega
    · have hnx : nextL l e h = (l, misL l e h) := by unfold nextL; rw [if_pos ha, if_neg hy]
      rw [hnx]
      rw [hmm] at k1
      exact rnext_no o l.length c l _ _ _ _ _ _ _ _ _ _ _ _ h w (misL l e h) ⟨hy, (mis_far l e h).1, (mis_far l e h).2⟩ hl rfl h64 k1
  · have hnx : nextL l e h = ([], askL l e h) := by unfold nextL; rw [if_neg ha]
    have hmm : mayL l e h = askL l e h := by unfold mayL; rw [if_neg ha]
    have hay : askL l e h = 2 ∨ askL l e h = 1 := by
      unfold askL at ha ⊢
      split
      · split
        · exact .inr rfl
        · rename_i h1 h2
          rw [if_pos h1, if_neg h2] at ha
          exact absurd rfl ha
      · exact .inl rfl
    rw [hnx]
    rw [hmm] at k1
    refine (rnext_bad _ _ _ _ _ _ _ _ _ _ _ _ _ h w (askL l e h) hay k1).mono ?_
    rintro r w' ⟨h1, h2⟩
    exact ⟨_, h1, hasRow_nil w' 4, h2⟩
end Go.Proofs.Ytckaajadajjijab.Ord
namespace Go.Proofs.Ytckaajadajjijab
namespace orderTakes
open Go.ChangeShapes Go.WideShapes Go.ChangeAt Go.RowKit
open Go.ChangeMaps (open_string shut_string)
open Go.Proofs.Ytckaajadajjijab.Msg (Ev okE checkE evV evC FitE echeck_any cells12' gkeep gsetO set1)
open Go.Proofs.Ytckaajadajjijab.Ord
open Go.Proofs.Ytckaajadajjijab.Addr (Pf okP checkP wideN firstN kP hiN loN adV pfV RowAt below2 below_drew below_new bset RowAt.lt RowAt.cell RowAt.frozen RowAt.below RowAt.drew RowAt.new RowAt.alloc gdrew gset gbelow galloc grefl cells2 cells4 results_cell Bl bl_ne wp_region_bl bl_call bl_same)

theorem own : ownKnob Try.prog.godebug = none := by kernel_rfl
theorem laidOut : laidOutB Try.prog = true := by kernel_rfl
set_option maxHeartbeats 8000000 in
set_option maxRecDepth 20000 in
theorem walks (v : Value) (c0 c1 c2 c3 c5 c6 c7 c8 c9 c10 c11 : Int) (cs : Bool) (h : Int) (w : World) (m : List St) (y CK MY s0 s1 s2 : Int) (su is : Bool)
    (k1 : ∀ W : World, Below w.heap.size w W → Calls Try.prog 12 #[v, .agg #[.int .u8 c0, .int .i64 c1, .int .u64 c2, .int .i64 c3, .bool cs, .int .u64 c5, .int .u64 c6, .int .i64 c7, .int .u8 c8, .int .i64 c9, .int .i64 c10, .int .i64 c11], .int .i64 h] W fun r w' => ∃ u, r = .returned (.tuple #[u, .int .i64 y]) ∧ HasSts w' u m ∧ Below W.heap.size W w')
    (k2 : ∀ W : World, Below w.heap.size w W → Calls Try.prog 13 #[v, .agg #[.int .u8 c0, .int .i64 c1, .int .u64 c2, .int .i64 c3, .bool cs, .int .u64 c5, .int .u64 c6, .int .i64 c7, .int .u8 c8, .int .i64 c9, .int .i64 c10, .int .i64 c11], .int .i64 h] W fun r w' => ∃ u, r = .returned (.tuple #[u, .int .i64 y]) ∧ HasSts w' u m ∧ Below W.heap.size W w')
    (k3 : ∀ W : World, Below w.heap.size w W → Calls Try.prog 14 #[v, .int .i64 c1] W fun e w' => e = .returned (.tuple #[.agg #[.int .i64 s0, .int .u64 s1, .int .i64 s2, .bool su], .bool is]) ∧ Below W.heap.size W w')
    (k4 : ∀ W : World, Below w.heap.size w W → Calls Try.prog 15 #[v, .int .i64 c1] W fun e w' => e = .returned (.tuple #[.agg #[.int .i64 s0, .int .u64 s1, .int .i64 s2, .bool su], .bool is]) ∧ Below W.heap.size W w')
    (k5 : ∀ W : World, Below w.heap.size w W → Calls Try.prog 17 #[v] W fun e w' => e = .returned (.int .i64 CK) ∧ Below W.heap.size W w')
    (k6 : ∀ W : World, Below w.heap.size w W → Calls Try.prog 18 #[v] W fun e w' => e = .returned (.int .i64 CK) ∧ Below W.heap.size W w')
    (k7 : ∀ W : World, Below w.heap.size w W → Calls Try.prog 19 #[v, .agg #[.int .u8 c0, .int .i64 c1, .int .u64 c2, .int .i64 c3, .bool cs, .int .u64 c5, .int .u64 c6, .int .i64 c7, .int .u8 c8, .int .i64 c9, .int .i64 c10, .int .i64 c11], .int .i64 h] W fun e w' => e = .returned (.int .i64 MY) ∧ Below W.heap.size W w')
    (k8 : ∀ W : World, Below w.heap.size w W → Calls Try.prog 20 #[v, .agg #[.int .u8 c0, .int .i64 c1, .int .u64 c2, .int .i64 c3, .bool cs, .int .u64 c5, .int .u64 c6, .int .i64 c7, .int .u8 c8, .int .i64 c9, .int .i64 c10, .int .i64 c11], .int .i64 h] W fun e w' => e = .returned (.int .i64 MY) ∧ Below W.heap.size W w') :
    Calls Try.prog 4 #[v, .agg #[.int .u8 c0, .int .i64 c1, .int .u64 c2, .int .i64 c3, .bool cs, .int .u64 c5, .int .u64 c6, .int .i64 c7, .int .u8 c8, .int .i64 c9, .int .i64 c10, .int .i64 c11], .int .i64 h] w fun e w' => e = .returned (.bool true) ∧ Below w.heap.size w w' := by
  have hv := lives_any
  have heq := st_eql s0 s1 s2 su
  have hgd := st_guard
  have hss : (is == is) = true := by cases is <;> rfl
  obtain ⟨X, hX⟩ : ∃ X, X = w.alloc (.cells #[.int .u8 c0, .int .i64 c1, .int .u64 c2, .int .i64 c3, .bool cs, .int .u64 c5, .int .u64 c6, .int .i64 c7, .int .u8 c8, .int .i64 c9, .int .i64 c10, .int .i64 c11] 39) := ⟨_, rfl⟩
  have hB : Below w.heap.size w X := by rw [hX]; exact below_new (Below.refl _ _) _
  have r0 : RowAt X w.heap.size [.int .u8 c0, .int .i64 c1, .int .u64 c2, .int .i64 c3, .bool cs, .int .u64 c5, .int .u64 c6, .int .i64 c7, .int .u8 c8, .int .i64 c9, .int .i64 c10, .int .i64 c11] 39 := by rw [hX]; exact RowAt.new _ _ _
  go_enter Try.func4, Try.ntmps4
  go_upto_region 1 with fail
  rw [← hX]
  clear hX
  obtain ⟨g0, hg0⟩ : ∃ g, g = w.heap.size := ⟨_, rfl⟩
  rw [← hg0] at r0 ⊢
  clear hg0
  obtain ⟨⟨y0, y1, y2, y3, y4, y5⟩, ⟨y6, y7, y8, y9, y10, y11⟩, yf, hly⟩ := cells12' r0
  go_wp2_with fail
  go_at_call 12; refine (k1 _ hB).mono ?_; rintro e w1 ⟨u1, rfl, hm, hb⟩
  replace r0 := RowAt.below r0 hb
  replace hB := below2 hB hb
  have M1 : Hid (HasSts w1 u1 m) := hm
  clear hm hb k1 y0 y1 y2 y3 y4 y5 y6 y7 y8 y9 y10 y11 yf hly
  obtain ⟨⟨y0, y1, y2, y3, y4, y5⟩, ⟨y6, y7, y8, y9, y10, y11⟩, yf, hly⟩ := cells12' r0
  go_wp2_with fail
  go_at_call 13; refine (k2 _ hB).mono ?_; rintro e w2 ⟨u2, rfl, hm, hb⟩
  replace r0 := RowAt.below r0 hb
  replace hB := below2 hB hb
  replace M1 : Hid (HasSts _ u1 m) := M1.out.keep hb
  have M2 : Hid (HasSts w2 u2 m) := hm
  clear hm hb k2 y0 y1 y2 y3 y4 y5 y6 y7 y8 y9 y10 y11 yf hly
  obtain ⟨⟨y0, y1, y2, y3, y4, y5⟩, ⟨y6, y7, y8, y9, y10, y11⟩, yf, hly⟩ := cells12' r0
  go_wp2_with fail
  go_at_call 14; refine (k3 _ hB).mono ?_; rintro e w3 ⟨rfl, hb⟩
  replace r0 := RowAt.below r0 hb
  replace hB := below2 hB hb
  replace M1 : Hid (HasSts _ u1 m) := M1.out.keep hb
  replace M2 : Hid (HasSts _ u2 m) := M2.out.keep hb
  clear hb k3 y0 y1 y2 y3 y4 y5 y6 y7 y8 y9 y10 y11 yf hly
  go_upto_region 4 with fail
  obtain ⟨Y1, hY⟩ : ∃ Y, Y = w3.alloc (.cells #[.int .i64 s0, .int .u64 s1, .int .i64 s2, .bool su] 48) := ⟨_, rfl⟩
  have hb : Below w3.heap.size w3 Y1 := by rw [hY]; exact below_new (Below.refl _ _) _
  have r1 : RowAt Y1 w3.heap.size [.int .i64 s0, .int .u64 s1, .int .i64 s2, .bool su] 48 := by rw [hY]; exact RowAt.new _ _ _
  rw [← hY]
  replace r0 := RowAt.below r0 hb
  replace hB := below2 hB hb
  replace M1 : Hid (HasSts _ u1 m) := M1.out.keep hb
  replace M2 : Hid (HasSts _ u2 m) := M2.out.keep hb
  clear hb hY
  obtain ⟨g1, hgg⟩ : ∃ g, g = w3.heap.size := ⟨_, rfl⟩
  rw [← hgg] at r1 ⊢
  clear hgg
  obtain ⟨⟨y0, y1, y2, y3, y4, y5⟩, ⟨y6, y7, y8, y9, y10, y11⟩, yf, hly⟩ := cells12' r0
  go_wp2_with fail
  go_at_call 15; refine (k4 _ hB).mono ?_; rintro e w4 ⟨rfl, hb⟩
  replace r0 := RowAt.below r0 hb
  replace hB := below2 hB hb
  replace M1 : Hid (HasSts _ u1 m) := M1.out.keep hb
  replace M2 : Hid (HasSts _ u2 m) := M2.out.keep hb
  replace r1 := RowAt.below r1 hb
  clear hb k4 y0 y1 y2 y3 y4 y5 y6 y7 y8 y9 y10 y11 yf hly
  go_upto_region 5 with fail
  obtain ⟨Y2, hY⟩ : ∃ Y, Y = w4.alloc (.cells #[.int .i64 s0, .int .u64 s1, .int .i64 s2, .bool su] 48) := ⟨_, rfl⟩
  have hb : Below w4.heap.size w4 Y2 := by rw [hY]; exact below_new (Below.refl _ _) _
  have r2 : RowAt Y2 w4.heap.size [.int .i64 s0, .int .u64 s1, .int .i64 s2, .bool su] 48 := by rw [hY]; exact RowAt.new _ _ _
  rw [← hY]
  replace r0 := RowAt.below r0 hb
  replace hB := below2 hB hb
  replace M1 : Hid (HasSts _ u1 m) := M1.out.keep hb
  replace M2 : Hid (HasSts _ u2 m) := M2.out.keep hb
  replace r1 := RowAt.below r1 hb
  clear hb hY
  obtain ⟨g2, hgg⟩ : ∃ g, g = w4.heap.size := ⟨_, rfl⟩
  rw [← hgg] at r2 ⊢
  clear hgg
  have m0 : ∀ p : Bl Y2, p.W.cell? ⟨g0, 0, none⟩ = some (.int .u8 c0) := fun p => (r0.below p.h).cell 0
  have m1 : ∀ p : Bl Y2, p.W.cell? ⟨g0, 1, none⟩ = some (.int .i64 c1) := fun p => (r0.below p.h).cell 1
  have m2 : ∀ p : Bl Y2, p.W.cell? ⟨g0, 2, none⟩ = some (.int .u64 c2) := fun p => (r0.below p.h).cell 2
  have m3 : ∀ p : Bl Y2, p.W.cell? ⟨g0, 3, none⟩ = some (.int .i64 c3) := fun p => (r0.below p.h).cell 3
  have m4 : ∀ p : Bl Y2, p.W.cell? ⟨g0, 4, none⟩ = some (.bool cs) := fun p => (r0.below p.h).cell 4
  have m5 : ∀ p : Bl Y2, p.W.cell? ⟨g0, 5, none⟩ = some (.int .u64 c5) := fun p => (r0.below p.h).cell 5
  have m6 : ∀ p : Bl Y2, p.W.cell? ⟨g0, 6, none⟩ = some (.int .u64 c6) := fun p => (r0.below p.h).cell 6
  have m7 : ∀ p : Bl Y2, p.W.cell? ⟨g0, 7, none⟩ = some (.int .i64 c7) := fun p => (r0.below p.h).cell 7
  have m8 : ∀ p : Bl Y2, p.W.cell? ⟨g0, 8, none⟩ = some (.int .u8 c8) := fun p => (r0.below p.h).cell 8
  have m9 : ∀ p : Bl Y2, p.W.cell? ⟨g0, 9, none⟩ = some (.int .i64 c9) := fun p => (r0.below p.h).cell 9
  have m10 : ∀ p : Bl Y2, p.W.cell? ⟨g0, 10, none⟩ = some (.int .i64 c10) := fun p => (r0.below p.h).cell 10
  have m11 : ∀ p : Bl Y2, p.W.cell? ⟨g0, 11, none⟩ = some (.int .i64 c11) := fun p => (r0.below p.h).cell 11
  have n0 : ∀ p : Bl Y2, p.W.cell? ⟨g1, 0, none⟩ = some (.int .i64 s0) := fun p => (r1.below p.h).cell 0
  have n1 : ∀ p : Bl Y2, p.W.cell? ⟨g1, 1, none⟩ = some (.int .u64 s1) := fun p => (r1.below p.h).cell 1
  have n2 : ∀ p : Bl Y2, p.W.cell? ⟨g1, 2, none⟩ = some (.int .i64 s2) := fun p => (r1.below p.h).cell 2
  have n3 : ∀ p : Bl Y2, p.W.cell? ⟨g1, 3, none⟩ = some (.bool su) := fun p => (r1.below p.h).cell 3
  have q0 : ∀ p : Bl Y2, p.W.cell? ⟨g2, 0, none⟩ = some (.int .i64 s0) := fun p => (r2.below p.h).cell 0
  have q1 : ∀ p : Bl Y2, p.W.cell? ⟨g2, 1, none⟩ = some (.int .u64 s1) := fun p => (r2.below p.h).cell 1
  have q2 : ∀ p : Bl Y2, p.W.cell? ⟨g2, 2, none⟩ = some (.int .i64 s2) := fun p => (r2.below p.h).cell 2
  have q3 : ∀ p : Bl Y2, p.W.cell? ⟨g2, 3, none⟩ = some (.bool su) := fun p => (r2.below p.h).cell 3
  have j5 : ∀ p : Bl Y2, Calls Try.prog 17 #[v] p.W fun e w' => e = .returned (.int .i64 CK) ∧ Below p.W.heap.size p.W w' := fun p => k5 p.W (below2 hB p.h)
  have j6 : ∀ p : Bl Y2, Calls Try.prog 18 #[v] p.W fun e w' => e = .returned (.int .i64 CK) ∧ Below p.W.heap.size p.W w' := fun p => k6 p.W (below2 hB p.h)
  have j7 : ∀ p : Bl Y2, Calls Try.prog 19 #[v, .agg #[.int .u8 c0, .int .i64 c1, .int .u64 c2, .int .i64 c3, .bool cs, .int .u64 c5, .int .u64 c6, .int .i64 c7, .int .u8 c8, .int .i64 c9, .int .i64 c10, .int .i64 c11], .int .i64 h] p.W fun e w' => e = .returned (.int .i64 MY) ∧ Below p.W.heap.size p.W w' := fun p => k7 p.W (below2 hB p.h)
  have j8 : ∀ p : Bl Y2, Calls Try.prog 20 #[v, .agg #[.int .u8 c0, .int .i64 c1, .int .u64 c2, .int .i64 c3, .bool cs, .int .u64 c5, .int .u64 c6, .int .i64 c7, .int .u8 c8, .int .i64 c9, .int .i64 c10, .int .i64 c11], .int .i64 h] p.W fun e w' => e = .returned (.int .i64 MY) ∧ Below p.W.heap.size p.W w' := fun p => k8 p.W (below2 hB p.h)
  have j9 : ∀ p : Bl Y2, Calls Try.prog 21 #[u1, u2] p.W fun e w' => e = .returned (.bool true) ∧ Below p.W.heap.size p.W w' := fun p => same_any m u1 u2 p.W (M1.out.keep p.h) (M2.out.keep p.h)
  haveI := bl_ne Y2
  refine wp_region_bl (by kernel_rfl) (by kernel_rfl) ?_
  repeat (go_big_quiet_step (first | (go_at_call 16; with_reducible exact bl_call (hv _)) | (go_at_call 17; with_reducible exact bl_call (j5 _)) | (go_at_call 18; with_reducible exact bl_call (j6 _)) | (go_at_call 19; with_reducible exact bl_call (j7 _)) | (go_at_call 20; with_reducible exact bl_call (j8 _)) | (go_at_call 21; with_reducible exact bl_call (j9 _))))
  refine wpQuiet_nil ?_
  intro wq hw'
  obtain ⟨⟨wz, hq⟩, hw2⟩ := hw'
  subst hw2
  have hW := below2 hB hq
  go_wp2_with fail
  go_ret
  exact ⟨rfl, hW⟩
theorem walk (v : Value) (l : List St) (e : Ev) (h : Int) (w : World) (b0 : HasSts w v l) (f0 : ∀ s ∈ l, FitS s) (b1 : FitE e) (b2 : -9223372036854775808 ≤ h ∧ h ≤ 9223372036854775807) :
    Calls Try.prog 4 #[v, evV e, .int .i64 h] w fun e w' => e = .returned (.bool true) ∧ Below w.heap.size w w' := by
  refine walks v _ _ _ _ _ _ _ _ _ _ _ _ h w (nextL l e h).1 (nextL l e h).2 (checkL l) (mayL l e h) (seatOf l e.router).router ((seatOf l e.router).seq : Int) (seatOf l e.router).time (seatOf l e.router).up (isIn l e.router) ?_ (fun W hb => rnext_any l v e h W (b0.keep hb) b1) (fun W hb => find_any l v e.router W (b0.keep hb)) (fun W hb => rfind_any l v e.router W (b0.keep hb)) (fun W hb => check_any l v W (b0.keep hb)) (fun W hb => rcheck_any l v W (b0.keep hb)) (fun W hb => may_any l v e h W (b0.keep hb) b1) (fun W hb => rmay_any l v e h W (b0.keep hb) b1)
  intro W hb
  refine (next_any l v e h W (b0.keep hb) b1).mono ?_
  rintro r w' ⟨u, h1, ⟨h2, _⟩, h3⟩
  exact ⟨u, h1, h2, h3⟩

set_option maxRecDepth 100000 in
theorem lifted (os : Os) (started : os.Started) (H : Type) (enc : TypeId × Value → H) :
    ReturnsInHanded {} Try.checked os 4 .any (Rows.orderTakesSpec.pre6 enc Try.prog Try.f4 Rows.orderTakesRow.domain false) (Rows.orderTakesSpec.post enc Try.prog Try.f4 false true false false) := by
  refine returnsInHanded_of_change_sized (C := Try.checked) own started (by kernel_rfl) Try.func4
    (ChangeSpec.witness6 (enc := enc) (C := Try.checked) false ⟨#[], #[.slice none 0 0, .agg #[.int .u8 0, .int .i64 0, .int .u64 0, .int .i64 0, .bool false, .int .u64 0, .int .u64 0, .int .i64 0, .int .u8 0, .int .i64 0, .int .i64 0, .int .i64 0], .int .i64 0], []⟩ 8 (by kernel_rfl) (by kernel_rfl) (by kernel_rfl) (by kernel_rfl)) ?_
  intro W base args ds gs before hval0 hW _ hsz0 _
  have hsz : (DataW.weightsEach Try.prog (Try.f4.params.toList ++ Rows.orderTakesSpec.plain.varTypes Try.prog) (ds ++ gs)).all (· ≤ reachBytes) = true := hsz0
  clear hsz0
  have hval : ∀ (j : Nat) t v, Try.f4.params[j]? = some t → args[j]? = some v → Value.okWide Try.prog W .any base t v := hval0
  have hW' := hW
  obtain ⟨p, q, hA0, hV, rfl, hfz, hnd⟩ := hW
  have hA : DataW.TrodAll enc Try.prog W 0 (fun _ => true) true Try.f4.params.toList args.toList ds p := hA0
  rw [Try.params4] at hA hval hsz
  obtain ⟨v0, vs0, d0, ds0, p0, q0, hargs, rfl, rfl, h0, r0⟩ := trodAll_cons hA
  obtain ⟨v1, vs1, d1, ds1, p1, q1, rfl, rfl, rfl, h1, r1⟩ := trodAll_cons r0
  obtain ⟨v2, vs2, d2, ds2, p2, q2, rfl, rfl, rfl, h2, r2⟩ := trodAll_cons r1
  obtain ⟨rfl, rfl, rfl⟩ := trodAll_nil r2
  obtain rfl : args = #[v0, v1, v2] := by cases args; simp_all
  obtain ⟨rfl, rfl⟩ := trodVars_none hV
  obtain ⟨a0, len0, cap0, rfl⟩ := okWide_slice Try.underlying44 (hval 0 44 v0 rfl rfl)
  have k0 := h0
  have lt0 : ∀ x ∈ p0, x.block < W.heap.size := by obtain ⟨m, hm⟩ := k0; exact DataW.trod_lt m _ _ _ hm
  obtain ⟨fuel0, hf0⟩ := h0
  obtain ⟨z0, b0, f0⟩ := Ord.open_seats hf0
  have k1 := h1
  have lt1 : ∀ x ∈ p1, x.block < W.heap.size := by obtain ⟨m, hm⟩ := k1; exact DataW.trod_lt m _ _ _ hm
  obtain ⟨n1, rfl, b1⟩ := Msg.open_event (hval 1 39 v1 rfl rfl) h1
  obtain ⟨a2, rfl, rfl, rfl, w2⟩ := open_int Try.underlying2 (hval 2 2 v2 rfl rfl) h2
  have b2 : -9223372036854775808 ≤ a2 ∧ a2 ≤ 9223372036854775807 := by simpa [Lit.wf, IntKind.min, IntKind.max, IntKind.signed, IntKind.bits] using w2
  clear hA0 hval0
  refine (walk (.slice a0 len0 cap0) z0 n1 a2 W b0 f0 b1 b2).mono fun e W' ⟨he, bel⟩ => ?_
  subst he
  exact ⟨_, rfl, _, _, _, [], _, [], hW', trodAll_mk1 (shut_bool Try.underlying4 _), (trodAll_cons_mk (Below.trod laidOut (by kernel_rfl) (of_decide_eq_true (by kernel_rfl)) k0 bel lt0) (trodAll_cons_mk (Below.trod laidOut (by kernel_rfl) (of_decide_eq_true (by kernel_rfl)) k1 bel lt1) (trodAll_cons_mk (shut_int Try.underlying2 w2) trodAll_mk0))), rfl, bel.frame _, fun h => by cases h⟩

theorem over : Rows.orderTakesRow.holds Try.pinned (OpenSpec.ofChange Rows.orderTakesSpec) :=
  OpenClaim.holds_of_wide 4 Try.f4 rfl rfl rfl rfl rfl rfl rfl ⟨rfl, rfl, rfl, rfl, rfl⟩ rfl rfl rfl rfl rfl (by kernel_rfl) Try.func4 (by kernel_rfl)
    (of_decide_eq_true (by kernel_rfl)) (by unfold Func.isWrapper; first | (rw [if_pos (by decide +kernel)]; kernel_rfl) | (rw [if_neg (by decide +kernel)]; exact ⟨rfl, rfl⟩))
    (fun os started H enc _ => lifted os started H enc)
end orderTakes
theorem otakes_holds : Rows.OrderTakesSaid := orderTakes.over
#print axioms otakes_holds
end Go.Proofs.Ytckaajadajjijab
