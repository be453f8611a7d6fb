/- The law's few: rows that are short, or longer than any right one. -/
import Derived.Test.YtebjklhffccomaaLkClone
import Derived.Lib.Overlaps
import Derived.Lib.AppendZerosOnto
import Derived.Lib.SlBuf
import Derived.Test.YtebjklhffccomaaCtComp
import Derived.Test.YtebjklhffccomaaSpMath
import Derived.Test.YtebjklhffccomaaIvZ1
import Derived.Test.YtebjklhffccomaaAddrQuiet
import Derived.BigQuiet
import Derived.Test.YtebjklhffccomaaIvBase
set_option linter.unusedVariables false
namespace Go.Proofs.Ytebjklhffccomaa.Lk
open Go.RowKit
/-- copy, as one step of a region whose order is drawn -/
theorem copy_step {ops : Array Oper} {o : Oper} {a : Act} {w : World} {K : Act → World → Prop} {Q : Exit → Act → World → Prop} {E : Prop} (hg : o.guard = none) (d s : Operand) (t t' : TypeId)
    (ho : o.op = .call { callee := .builtin .copy, args := #[d, s], argTypes := #[t, t'] }) {v u : Value} (hd : a.eval d = v) (hs : a.eval s = u) {v' : Value} {w' : World}
    (hr : (Builtin.copy_ #[t, t'] o.type #[v, u]).run Try.prog w = .ok v' w') (hK : K (a.put o.dst v') w') : if Region.wanted o (yielded ops a.tmps) = true then Oper.wp Try.prog o a w K Q else E := by
  rw [if_pos (by simp [Region.wanted, hg])]
  simp [Oper.wp, execOp, ho, resolve, invoke, builtin, hd, hs, hr, Result.andThen]
  exact hK
/-- a row that is copied into a row that is owned -/
theorem own_copy {e sz : Nat} {dT : TypeId} (hu : Try.prog.underlying dT = some (.slice e)) (hs : (Try.prog.info? e).map (·.size) = some sz) {W : World} {B g n cap : Nat} {xs : List Value} (h : W.ownsRow B e sz (.slice (some ⟨g, 0, none⟩) n cap) n xs)
    (o dLen dCap : Nat) (a : Addr) (sLen sCap k : Nat) (cs : List Value) (hk : Nat.min sLen dLen = k) (hl : cs.length = k * sz) (hok : o * sz + k * sz ≤ n * sz) (hsrc : ∀ j v, cs[j]? = some v → W.cell? (a.add j) = some v) (h1 : ∀ v ∈ cs, v.oneCell' = true) :
    ∃ W', (∀ sT ty, (Builtin.copy_ #[dT, sT] ty #[.slice (some ⟨g, o * sz, none⟩) dLen dCap, .slice (some a) sLen sCap]).run Try.prog W = .ok (goInt k) W') ∧ W'.ownsRow B e sz (.slice (some ⟨g, 0, none⟩) n cap) n (xs.take (o * sz) ++ cs ++ xs.drop (o * sz + k * sz)) ∧ W.grownBy W' (some g) := by
  rcases h.2 with ⟨e0, _⟩ | ⟨g', cap', cur, e1, hg, hgb, hnc, hcm, hcs, htk⟩
  · cases e0
  · injection e1 with e1 _ e3
    injection e1 with e1
    injection e1 with e1
    subst e1 e3
    have hnn : n * sz ≤ cur.size := by rw [hcs]; exact Nat.mul_le_mul_right _ hnc
    have hld := run_loadCells_list (P := Try.prog) W a cs hsrc
    have hst := run_storeCells_at Try.prog g (o * sz) e cs 0 cur W hgb (by omega) h1
    refine ⟨W.setRow g (cur.toList.take (o * sz) ++ cs ++ cur.toList.drop (o * sz + cs.length)).toArray, fun sT ty => ?_, ?_, ?_⟩
    · cases hq : Try.prog.info? e with
      | none => simp [hq] at hs
      | some i =>
        have hi : i.size = sz := by simpa [hq] using hs
        rw [hl] at hld
        simp only [Nat.add_zero] at hst
        simp [Builtin.copy_, run_underlying hu, Builtin.lenOf, Builtin.firstCells, sizeOf, typeInfo, hq, hi, hk, hld, hst]
    · refine ⟨?_, .inr ⟨g, cap, _, rfl, hg, setRow_heap W g cur _ e _ hgb, hnc, hcm, ?_, ?_⟩⟩
      · have := h.1
        simp only [List.length_append, List.length_take, List.length_drop]
        omega
      · simp only [List.size_toArray, List.length_append, List.length_take, List.length_drop, Array.length_toList]
        omega
      · rw [← htk]
        simp only [List.take_append, List.length_append, List.length_take, Array.length_toList, List.take_take, List.drop_take]
        rw [Nat.min_eq_left (show o * sz ≤ cur.size by omega), Nat.min_eq_right (show o * sz ≤ n * sz by omega), Nat.min_eq_left (show o * sz ≤ n * sz by omega), List.take_of_length_le (show cs.length ≤ n * sz - o * sz by omega), hl]
    · exact ⟨rfl, rfl, rfl, by simp [World.setRow], fun k _ hk => by simp only [World.setRow]; rw [Array.getElem?_modify]; split; (rename_i h0; exact absurd (by rw [h0]) hk); rfl⟩
end Go.Proofs.Ytebjklhffccomaa.Lk
namespace Go.Proofs.Ytebjklhffccomaa.Ct
open Go.RowKit
open Go.Proofs.Ytebjklhffccomaa.Addr (hiN loN adV RowAt below2 below_drew below_new bset RowAt.lt RowAt.cell RowAt.frozen RowAt.below RowAt.drew RowAt.new RowAt.alloc cells2 RowAt.gkeep)
open Go.Proofs.Ytebjklhffccomaa.Lk (hasRow_own append_row own_copy addr_add)
attribute [-go_sem] Builtin.append_
theorem size_ad : (Try.prog.info? 61).map (·.size) = some 2 := by kernel_rfl
theorem lit_one (W : World) (a : Nat) : HasAds (W.alloc (.cells #[.int .u64 (hiN a : Int), .int .u64 (loN a : Int)] 61)) (.slice (some ⟨W.heap.size, 0, none⟩) 1 1) [a] :=
  hasRow_own (World.ownsRow_lit (base := W.heap.size) W #[.int .u64 (hiN a : Int), .int .u64 (loN a : Int)] 1 (Nat.le_refl _) (by decide) rfl)
theorem insN_at {o : List Nat} (hu : Up o) (p i : Nat) (hi : i ≤ o.length) (h1 : ∀ j (h : j < o.length), i ≤ j → p < o[j]) (h2 : ∀ j (h : j < o.length), j < i → o[j] < p) : insN o p = o.take i ++ p :: o.drop i := by
  have hd : ∀ x ∈ o.drop i, p < x := fun x hx => by
    obtain ⟨j, hj, rfl⟩ := List.getElem_of_mem hx
    rw [List.length_drop] at hj
    rw [List.getElem_drop]
    exact h1 _ (by omega) (by omega)
  have ht : ∀ x ∈ o.take i, x < p := fun x hx => by
    obtain ⟨j, hj, rfl⟩ := List.getElem_of_mem hx
    rw [List.length_take] at hj
    rw [List.getElem_take]
    exact h2 _ (by omega) (by omega)
  refine ext_up _ _ (up_insN hu p) ?_ (fun z => ?_)
  · refine List.pairwise_append.2 ⟨hu.sublist (List.take_sublist _ _), List.pairwise_cons.2 ⟨hd, hu.sublist (List.drop_sublist _ _)⟩, fun a ha b hb => ?_⟩
    rcases List.mem_cons.1 hb with rfl | hb
    · exact ht a ha
    · exact Nat.lt_trans (ht a ha) (hd b hb)
  · rw [mem_insN]
    conv => lhs; rw [show (z ∈ o) = (z ∈ o.take i ++ o.drop i) by rw [List.take_append_drop]]
    simp only [List.mem_append, List.mem_cons]
    constructor
    · rintro (h | h | h)
      · exact .inr (.inl h)
      · exact .inl h
      · exact .inr (.inr h)
    · rintro (h | h | h)
      · exact .inr (.inl h)
      · exact .inl h
      · exact .inr (.inr h)
theorem insN_in {o : List Nat} (hu : Up o) {p : Nat} (h : p ∈ o) : insN o p = o := ext_up _ _ (up_insN hu p) hu (fun z => by
  rw [mem_insN]
  exact ⟨fun hz => by rcases hz with rfl | hz; exact h; exact hz, fun hz => .inr hz⟩)
theorem sortN_snoc (l : List Nat) (k : Nat) (h : k < l.length) : sortN (l.take (k + 1)) = insN (sortN (l.take k)) l[k] := by
  unfold sortN
  rw [List.take_succ_eq_append_getElem h, List.foldl_append]
  rfl
theorem sortN_len (l : List Nat) : (sortN l).length ≤ l.length := by
  have key : ∀ (m l : List Nat), Up m → (∀ x ∈ m, x ∈ l) → m.length ≤ l.length := by
    intro m
    induction m with
    | nil => intro l _ _; exact Nat.zero_le _
    | cons y m ih =>
      intro l hu h
      have hp := List.pairwise_cons.1 hu
      have hy := h y List.mem_cons_self
      have h1 := ih (l.erase y) hp.2 (fun x hx => (List.mem_erase_of_ne (by have := hp.1 x hx; omega)).2 (h x (List.mem_cons_of_mem _ hx)))
      have h2 := List.length_erase_of_mem hy
      have h3 := List.length_pos_of_mem hy
      rw [List.length_cons]
      omega
  exact key _ _ (up_sortN l) (fun x hx => (mem_sortN _ _).1 hx)
end Go.Proofs.Ytebjklhffccomaa.Ct
namespace Go.Proofs.Ytebjklhffccomaa.Sp
open Go.Proofs.Ytebjklhffccomaa.Addr (wideN rightB)
/-- where a span begins, and where another address follows on it -/
def plc1 (six : Bool) (s : Sp) : List Nat := s.1 :: (if s.2 < topN six then [s.2 + 1] else [])
def plc (six : Bool) (l : List Sp) : List Nat := l.flatMap (plc1 six)
theorem mem_plc {six : Bool} {l : List Sp} {x : Nat} : x ∈ plc six l ↔ ∃ s ∈ l, x = s.1 ∨ (s.2 < topN six ∧ x = s.2 + 1) := by
  unfold plc plc1
  rw [List.mem_flatMap]
  constructor
  · rintro ⟨s, hs, h⟩
    refine ⟨s, hs, ?_⟩
    rcases List.mem_cons.1 h with h | h
    · exact .inl h
    · split at h
      · exact .inr ⟨by assumption, List.mem_singleton.1 h⟩
      · cases h
  · rintro ⟨s, hs, h⟩
    refine ⟨s, hs, ?_⟩
    rcases h with h | ⟨h1, h2⟩
    · rw [h]; exact List.mem_cons_self
    · rw [if_pos h1, h2]; simp
theorem plc_app (six : Bool) (a b : List Sp) : plc six (a ++ b) = plc six a ++ plc six b := by unfold plc; rw [List.flatMap_append]
theorem plc_top {six : Bool} {l : List Sp} (hl : ∀ s ∈ l, okS six s = true) {x : Nat} (h : x ∈ plc six l) : x ≤ topN six := by
  obtain ⟨s, hs, h⟩ := mem_plc.1 h
  have := okS_iff.1 (hl s hs)
  rcases h with h | ⟨h1, h2⟩ <;> omega
/-- the places of two rows, in order, each once -/
def Plcs (six : Bool) (a b : List Sp) (P : List Nat) : Prop := P.Pairwise (· < ·) ∧ ∀ x, x ∈ P ↔ (x = 0 ∨ x ∈ plc six a ∨ x ∈ plc six b)
/-- between two places a row does not turn -/
theorem in_const {six : Bool} {l : List Sp} {p x : Nat} (hl : ∀ s ∈ l, okS six s = true) (hx : x ≤ topN six) (hp : p ≤ x) (hno : ∀ y ∈ plc six l, y ≤ x → y ≤ p) : inB l x = inB l p := by
  rw [Bool.eq_iff_iff, inB_iff, inB_iff]
  constructor
  · rintro ⟨s, hs, h1, h2⟩
    have := hno s.1 (mem_plc.2 ⟨s, hs, .inl rfl⟩) h1
    exact ⟨s, hs, this, by omega⟩
  · rintro ⟨s, hs, h1, h2⟩
    refine ⟨s, hs, by omega, ?_⟩
    apply Classical.byContradiction
    intro hn
    have := hno (s.2 + 1) (mem_plc.2 ⟨s, hs, .inr ⟨by omega, rfl⟩⟩) (by omega)
    omega
/-- what the document's row holds ahead of a place: all members below it, the last span open or not -/
def RwI (six : Bool) (f : Nat → Bool) (out : List Sp) (o : Bool) (p : Nat) : Prop :=
  (o = false → (p = 0 ∨ f (p - 1) = false) ∧ Row six out ∧ ∀ x, inB out x = true ↔ (f x = true ∧ x < p)) ∧
  (o = true → ∃ a q, out = a ++ [(q, 0)] ∧ q < p ∧ (∀ x, q ≤ x → x < p → f x = true) ∧ Row six a ∧ (∀ x, inB a x = true ↔ (f x = true ∧ x < q)) ∧ ∀ s ∈ a, s.2 + 1 < q)
theorem rw_start (six : Bool) (f : Nat → Bool) : RwI six f [] false 0 :=
  ⟨fun _ => ⟨.inl rfl, row_nil six, fun x => ⟨fun h => (by cases h), fun h => (by omega)⟩⟩, fun h => (by cases h)⟩
theorem rw_shift {six : Bool} {f : Nat → Bool} {out : List Sp} {p p2 : Nat} (h2 : Row six out) (h3 : ∀ x, inB out x = true ↔ (f x = true ∧ x < p)) (hp : p < p2) (hc : ∀ x, p ≤ x → x < p2 → f x = f p) (hf : f p = false) : RwI six f out false p2 := by
  refine ⟨fun _ => ⟨.inr (by rw [hc _ (by omega) (by omega)]; exact hf), h2, fun x => ?_⟩, fun h => (by cases h)⟩
  rw [h3]
  constructor
  · rintro ⟨a, b⟩; exact ⟨a, by omega⟩
  · rintro ⟨a, b⟩
    refine ⟨a, ?_⟩
    apply Classical.byContradiction
    intro hn
    rw [hc x (by omega) b, hf] at a
    cases a
theorem rw_skip {six : Bool} {f : Nat → Bool} {out : List Sp} {p p2 : Nat} (h : RwI six f out false p) (hp : p < p2) (hc : ∀ x, p ≤ x → x < p2 → f x = f p) (hf : f p = false) : RwI six f out false p2 :=
  rw_shift (h.1 rfl).2.1 (h.1 rfl).2.2 hp hc hf
theorem rw_open {six : Bool} {f : Nat → Bool} {out : List Sp} {p p2 : Nat} (h : RwI six f out false p) (hp : p < p2) (hc : ∀ x, p ≤ x → x < p2 → f x = f p) (hf : f p = true) : RwI six f (out ++ [(p, 0)]) true p2 := by
  obtain ⟨h1, h2, h3⟩ := h.1 rfl
  refine ⟨fun h => (by cases h), fun _ => ⟨out, p, rfl, hp, fun x hx hx2 => by rw [hc x hx hx2]; exact hf, h2, h3, fun s hs => ?_⟩⟩
  have hok := okS_iff.1 (h2.1 s hs)
  have hm := (h3 s.2).1 (inB_iff.2 ⟨s, hs, hok.1, by omega⟩)
  rcases h1 with h1 | h1
  · omega
  · apply Classical.byContradiction
    intro hn
    have : s.2 = p - 1 := by omega
    rw [this, h1] at hm
    cases hm.1
theorem rw_keep {six : Bool} {f : Nat → Bool} {out : List Sp} {p p2 : Nat} (h : RwI six f out true p) (hp : p < p2) (hc : ∀ x, p ≤ x → x < p2 → f x = f p) (hf : f p = true) : RwI six f out true p2 := by
  obtain ⟨a, q, e, h1, h2, h3⟩ := h.2 rfl
  refine ⟨fun h => (by cases h), fun _ => ⟨a, q, e, by omega, fun x hx hx2 => ?_, h3⟩⟩
  by_cases hl : x < p
  · exact h2 x hx hl
  · rw [hc x (by omega) hx2]; exact hf
theorem rw_last {six : Bool} {f : Nat → Bool} {a : List Sp} {p q : Nat} (h1 : q < p) (h2 : ∀ x, q ≤ x → x < p → f x = true) (h3 : Row six a) (h4 : ∀ x, inB a x = true ↔ (f x = true ∧ x < q)) (h5 : ∀ s ∈ a, s.2 + 1 < q) (ht : p ≤ topN six + 1) :
    Row six (a ++ [(q, p - 1)]) ∧ ∀ x, inB (a ++ [(q, p - 1)]) x = true ↔ (f x = true ∧ x < p) := by
  refine ⟨row_app h3 (okS_iff.2 ⟨by show q ≤ p - 1; omega, by show p - 1 ≤ _; omega⟩) h5, fun x => ?_⟩
  rw [inB_app, inB_one, Bool.or_eq_true, h4, hasS_iff]
  constructor
  · rintro (⟨u, v⟩ | ⟨u, v⟩)
    · exact ⟨u, by omega⟩
    · have u2 : q ≤ x := u
      have v2 : x ≤ p - 1 := v
      exact ⟨h2 x u2 (by omega), by omega⟩
  · rintro ⟨u, v⟩
    by_cases hl : x < q
    · exact .inl ⟨u, hl⟩
    · exact .inr ⟨by show q ≤ x; omega, by show x ≤ p - 1; omega⟩
theorem rw_shut {six : Bool} {f : Nat → Bool} {a : List Sp} {q p p2 : Nat} (h : RwI six f (a ++ [(q, 0)]) true p) (hp : p < p2) (hc : ∀ x, p ≤ x → x < p2 → f x = f p) (hf : f p = false) (ht : p ≤ topN six) : RwI six f (a ++ [(q, p - 1)]) false p2 := by
  obtain ⟨a2, q2, e, h1, h2, h3, h4, h5⟩ := h.2 rfl
  obtain ⟨e1, e2⟩ := List.append_inj' e rfl
  have e3 : q = q2 := by injection e2 with e2; injection e2
  subst e1 e3
  obtain ⟨r1, r2⟩ := rw_last h1 h2 h3 h4 h5 (by omega)
  exact rw_shift r1 r2 hp hc hf
theorem rw_end0 {six : Bool} {f : Nat → Bool} {out : List Sp} (h : RwI six f out false (topN six + 1)) : Row six out ∧ ∀ x, inB out x = true ↔ (f x = true ∧ x ≤ topN six) := by
  obtain ⟨_, h2, h3⟩ := h.1 rfl
  exact ⟨h2, fun x => by rw [h3, Nat.lt_succ_iff]⟩
theorem rw_end1 {six : Bool} {f : Nat → Bool} {a : List Sp} {q : Nat} (h : RwI six f (a ++ [(q, 0)]) true (topN six + 1)) : Row six (a ++ [(q, topN six)]) ∧ ∀ x, inB (a ++ [(q, topN six)]) x = true ↔ (f x = true ∧ x ≤ topN six) := by
  obtain ⟨a2, q2, e, h1, h2, h3, h4, h5⟩ := h.2 rfl
  obtain ⟨e1, e2⟩ := List.append_inj' e rfl
  have e3 : q = q2 := by injection e2 with e2; injection e2
  subst e1 e3
  obtain ⟨r1, r2⟩ := rw_last h1 h2 h3 h4 h5 (by omega)
  exact ⟨r1, fun x => by rw [← Nat.lt_succ_iff]; exact r2 x⟩
/-- an open row ends with the span that is not shut yet -/
theorem rw_tail {six : Bool} {f : Nat → Bool} {out : List Sp} {p : Nat} (h : RwI six f out true p) : ∃ a q, out = a ++ [(q, 0)] := by
  obtain ⟨a, q, e, _⟩ := h.2 rfl
  exact ⟨a, q, e⟩
/-- the place behind a place, or what follows on the last address -/
def nxt (six : Bool) (P : List Nat) (k : Nat) : Nat := P.getD k (topN six + 1)
theorem nxt_at {six : Bool} {P : List Nat} {k : Nat} (h : k < P.length) : nxt six P k = P[k] := by unfold nxt; simp [List.getD_eq_getElem?_getD, List.getElem?_eq_getElem h]
theorem nxt_end {six : Bool} {P : List Nat} : nxt six P P.length = topN six + 1 := by unfold nxt; simp [List.getD_eq_getElem?_getD]
theorem plcs_first {six : Bool} {a b : List Sp} {P : List Nat} (h : Plcs six a b P) : ∃ h0 : 0 < P.length, P[0] = 0 := by
  obtain ⟨i, hi, e⟩ := List.getElem_of_mem ((h.2 0).2 (.inl rfl))
  refine ⟨by omega, ?_⟩
  by_cases hz : i = 0
  · subst hz; exact e
  · have := List.pairwise_iff_getElem.1 h.1 0 i (by omega) hi (by omega)
    omega
theorem plcs_le {six : Bool} {a b : List Sp} {P : List Nat} (h : Plcs six a b P) (ha : ∀ s ∈ a, okS six s = true) (hb : ∀ s ∈ b, okS six s = true) {k : Nat} (hk : k < P.length) : P[k] ≤ topN six := by
  rcases (h.2 _).1 (List.getElem_mem hk) with e | e | e
  · omega
  · exact plc_top ha e
  · exact plc_top hb e
theorem plcs_step {six : Bool} {a b : List Sp} {P : List Nat} (h : Plcs six a b P) (ha : ∀ s ∈ a, okS six s = true) (hb : ∀ s ∈ b, okS six s = true) {k : Nat} (hk : k < P.length) :
    P[k] < nxt six P (k + 1) ∧ nxt six P (k + 1) ≤ topN six + 1 ∧ ∀ x, P[k] ≤ x → x < nxt six P (k + 1) → inB a x = inB a P[k] ∧ inB b x = inB b P[k] := by
  have hle := plcs_le h ha hb hk
  have hnx : P[k] < nxt six P (k + 1) ∧ nxt six P (k + 1) ≤ topN six + 1 := by
    by_cases hk1 : k + 1 < P.length
    · rw [nxt_at hk1]
      have := plcs_le h ha hb hk1
      exact ⟨List.pairwise_iff_getElem.1 h.1 k (k + 1) hk hk1 (by omega), by omega⟩
    · have e : k + 1 = P.length := by omega
      rw [e, nxt_end]; omega
  refine ⟨hnx.1, hnx.2, fun x h1 h2 => ?_⟩
  have hno : ∀ y ∈ P, y ≤ x → y ≤ P[k] := fun y hy hyx => by
    obtain ⟨i, hi, e⟩ := List.getElem_of_mem hy
    by_cases hik : i ≤ k
    · by_cases he : i = k
      · subst he; omega
      · have := List.pairwise_iff_getElem.1 h.1 i k hi hk (by omega)
        omega
    · exfalso
      have hk1 : k + 1 < P.length := by omega
      rw [nxt_at hk1] at h2
      by_cases he : i = k + 1
      · subst he; omega
      · have := List.pairwise_iff_getElem.1 h.1 (k + 1) i hk1 hi (by omega)
        omega
  exact ⟨in_const ha (by omega) h1 (fun y hy hyx => hno y ((h.2 y).2 (.inr (.inl hy))) hyx), in_const hb (by omega) h1 (fun y hy hyx => hno y ((h.2 y).2 (.inr (.inr hy))) hyx)⟩
end Go.Proofs.Ytebjklhffccomaa.Sp
namespace Go.Proofs.Ytebjklhffccomaa.Iv
open Go.RowKit Go.Shelf
open Go.Proofs.Ytebjklhffccomaa.Lk (HasRow hasRow_own addr_add)
open Go.Proofs.Ytebjklhffccomaa.Sp (Sp inB inB_iff Row rowB row_ext okS okS_iff okB okB_iff topN chk)
open Go.Proofs.Ytebjklhffccomaa.Addr (RowAt below2 below_drew below_new bset RowAt.lt RowAt.cell RowAt.frozen RowAt.below RowAt.drew RowAt.new RowAt.alloc cells2 cells4 Bl bl_ne wp_region_bl bl_call)
theorem one_any (x : Iv) (w : World) : Calls Try.prog 37 #[.agg #[.int .i64 x.1, .int .i64 x.2]] w fun e w' => e = .returned (.bool (okI x)) ∧ Below w.heap.size w w' := by
  have h0 : okI x = (decide (0 ≤ x.1) && (decide (x.1 ≤ x.2) && decide (x.2 ≤ 1099511627776))) := rfl
  obtain ⟨a, b⟩ := x
  simp only at h0 ⊢
  obtain ⟨X, hX⟩ : ∃ X, X = w.alloc (.cells #[.int .i64 a, .int .i64 b] 36) := ⟨_, rfl⟩
  have hB : Below w.heap.size w X := by rw [hX]; exact below_new (Below.refl _ _) _
  have rs : RowAt X w.heap.size [.int .i64 a, .int .i64 b] 36 := by rw [hX]; exact RowAt.new _ _ _
  obtain ⟨s0, s1, sf⟩ := cells2 rs
  generalize okI (a, b) = R at *
  go_enter Try.func37, Try.ntmps37
  go_upto_region 1 with fail
  rw [← hX]
  clear hX
  by_cases h1 : 0 ≤ a
  · rw [decide_eq_true h1] at h0
    have d1 : decide (0 ≤ a) = true := decide_eq_true h1
    by_cases h2 : a ≤ b
    · rw [decide_eq_true h2] at h0
      have d2 : decide (a ≤ b) = true := decide_eq_true h2
      by_cases h3 : b ≤ 1099511627776
      · rw [decide_eq_true h3] at h0
        have d3 : decide (b ≤ 1099511627776) = true := decide_eq_true h3
        subst h0
        go_wp2_with fail
        go_ret
        exact ⟨rfl, hB⟩
      · rw [decide_eq_false h3] at h0
        have d3 : decide (b ≤ 1099511627776) = false := decide_eq_false h3
        subst h0
        go_wp2_with fail
        go_ret
        exact ⟨rfl, hB⟩
    · rw [decide_eq_false h2] at h0
      have d2 : decide (a ≤ b) = false := decide_eq_false h2
      subst h0
      go_wp2_with fail
      go_ret
      exact ⟨rfl, hB⟩
  · rw [decide_eq_false h1] at h0
    have d1 : decide (0 ≤ a) = false := decide_eq_false h1
    subst h0
    go_wp2_with fail
    go_ret
    exact ⟨rfl, hB⟩
theorem inI_take {l : List Iv} {k : Nat} (hk : k < l.length) (t : Int) : inI (l.take (k + 1)) t = (inI (l.take k) t || (decide (l[k].1 ≤ t) && decide (t ≤ l[k].2))) := by
  rw [List.take_succ_eq_append_getElem hk, inI_app, inI_cons]
  show (_ || (_ || false)) = _
  rw [Bool.or_false]
set_option maxHeartbeats 4000000 in
set_option maxRecDepth 20000 in
theorem rin_any (l : List Iv) (t : Int) (v : Value) (w : World) (hl : HasI w v l) :
    Calls Try.prog 41 #[v, .int .i64 t] w fun e w' => e = .returned (.bool (inI l t)) ∧ Below w.heap.size w w' := by
  obtain ⟨o, c, rfl, hc1, hc2⟩ := HasRow.slice hl
  have HR : Hid (∀ wr : World, Below w.heap.size w wr → HasI wr (.slice o l.length c) l) := fun wr hb => hl.keep hb
  obtain ⟨n, hn⟩ : ∃ n, n = l.length := ⟨_, rfl⟩
  have HN : Hid (n = l.length) := hn
  rw [← hn] at HR hc1 ⊢
  have hni : (n : Int) ≤ 9223372036854775807 := by omega
  obtain ⟨R, hR⟩ : ∃ R, R = inI l t := ⟨_, rfl⟩
  have HD : Hid (R = inI l t) := hR
  rw [← hR]
  clear hl hn hR
  go_enter Try.func41, Try.ntmps41
  go_wp2_with fail
  go_loopw [9] (fun i wr => ∃ k : Nat, k ≤ n ∧ i = .int .i64 k ∧ Below w.heap.size w wr ∧ Hid (inI (l.take k) t = false)) (fun i _ => n - (Go.RowKit.intOf i).toNat)
  case atStart => exact ⟨0, by omega, rfl, Below.refl _ _, by rw [List.take_zero]; exact rfl⟩
  case round =>
    obtain ⟨k, hk, rfl, hB, HG⟩ := hrel
    by_cases hlt : k < n
    · have hkz : k < l.length := by rw [← HN.out]; exact hlt
      obtain ⟨g1, i1, rfl, hg1, a0, a1⟩ := HasI.cell (HR.out _ hB) k hkz
      have hki : (k : Int) < (n : Int) := by omega
      have HB1 : Hid (decide (l[k].1 ≤ t) = true → decide (t ≤ l[k].2) = true → R = true) := fun h1 h2 => by
        rw [HD.out]
        unfold inI
        exact List.any_eq_true.2 ⟨l[k], List.getElem_mem hkz, by rw [h1, h2]; rfl⟩
      have HB2 : Hid ((decide (l[k].1 ≤ t) && decide (t ≤ l[k].2)) = false → inI (l.take (k + 1)) t = false) := fun h => by rw [inI_take hkz, HG.out, h]; rfl
      obtain ⟨x, hx⟩ : ∃ x : Iv, x = l[k] := ⟨_, rfl⟩
      rw [← hx] at a0 a1 HB1 HB2
      obtain ⟨x1, x2⟩ := x
      clear hx hg1 HG
      simp only at a0 a1 HB1 HB2
      go_upto_region 4 with fail
      obtain ⟨X, hX⟩ : ∃ X, X = wr.alloc (.cells #[.int .i64 x1, .int .i64 x2] 36) := ⟨_, rfl⟩
      have hbX : Below wr.heap.size wr X := by rw [hX]; exact below_new (Below.refl _ _) _
      have r0 : RowAt X wr.heap.size [.int .i64 x1, .int .i64 x2] 36 := by rw [hX]; exact RowAt.new _ _ _
      rw [← hX]
      have hBX := below2 hB hbX
      obtain ⟨gs, hgs⟩ : ∃ g, g = wr.heap.size := ⟨_, rfl⟩
      rw [← hgs] at r0 ⊢
      clear hX hbX a0 a1 hgs hB
      obtain ⟨p0, p1, pf⟩ := cells2 r0
      by_cases h1 : x1 ≤ t
      · have d1 : decide (x1 ≤ t) = true := decide_eq_true h1
        by_cases h2 : t ≤ x2
        · have d2 : decide (t ≤ x2) = true := decide_eq_true h2
          have HV : Hid (R = true) := HB1.out d1 d2
          clear HB1 HB2
          go_wp2_with fail
          go_ret
          exact ⟨by rw [HV.out]; rfl, hBX⟩
        · have d2 : decide (t ≤ x2) = false := decide_eq_false h2
          have HV : Hid (inI (l.take (k + 1)) t = false) := HB2.out (by rw [d1, d2]; rfl)
          clear HB1 HB2
          go_wp2_with fail
          go_roundw
          case rel => exact ⟨k + 1, by omega, by go_num, hBX, HV⟩
          case measure => simp [Go.RowKit.intOf]; omega
      · have d1 : decide (x1 ≤ t) = false := decide_eq_false h1
        have HV : Hid (inI (l.take (k + 1)) t = false) := HB2.out (by rw [d1]; rfl)
        clear HB1 HB2
        go_wp2_with fail
        go_roundw
        case rel => exact ⟨k + 1, by omega, by go_num, hBX, HV⟩
        case measure => simp [Go.RowKit.intOf]; omega
    · have hkn : decide ((k : Int) < (n : Int)) = false := decide_eq_false (by omega)
      have HV : Hid (R = false) := by
        show _ = _
        have h0 := HG.out
        rw [List.take_of_length_le (by have := HN.out; omega)] at h0
        rw [HD.out, h0]
      clear HG
      go_wp2_with fail
      go_ret
      exact ⟨by rw [HV.out]; rfl, hB⟩
theorem okJ_iff {l : List Iv} : okJ l = true ↔ l.length ≤ 1024 ∧ Up2 l := by
  constructor
  · exact fun h => ⟨okJ_len h, up2_of h⟩
  · rintro ⟨h1, h2⟩
    unfold okJ
    rw [h2.1, Bool.true_and]
    exact okB_iff.2 ⟨by rw [List.length_map]; exact h1, up2_row h2⟩
theorem up2_step {l : List Iv} {k : Nat} (hk : k < l.length) (h : Up2 (l.take k)) (h1 : okI l[k] = true) (h2 : ∀ (j : Nat) (hj : j < l.length), k = j + 1 → l[j].2 + 1 < l[k].1) : Up2 (l.take (k + 1)) := by
  rw [List.take_succ_eq_append_getElem hk]
  refine ⟨?_, List.pairwise_append.2 ⟨h.2, by simp, fun y hy z hz => ?_⟩⟩
  · rw [List.all_append, h.1, List.all_cons, h1]; rfl
  · rw [List.mem_singleton.1 hz]
    obtain ⟨i, hi, rfl⟩ := List.getElem_of_mem hy
    have hi2 : i < k := by rw [List.length_take] at hi; omega
    rw [List.getElem_take]
    have hk1 : k - 1 < l.length := by omega
    have hlast := h2 (k - 1) hk1 (by omega)
    by_cases e : i = k - 1
    · subst e; exact hlast
    · have hp := List.pairwise_iff_getElem.1 h.2 i (k - 1) hi (by rw [List.length_take]; omega) (by omega)
      rw [List.getElem_take, List.getElem_take] at hp
      have ho := okI_iff.1 (List.all_eq_true.1 h.1 l[k - 1] (List.mem_take_iff_getElem.2 ⟨k - 1, by omega, rfl⟩))
      omega
set_option maxHeartbeats 8000000 in
set_option maxRecDepth 20000 in
theorem rchk_any (l : List Iv) (v : Value) (w : World) (hl : HasI w v l) (hf : ∀ x ∈ l, FitI x) :
    Calls Try.prog 19 #[v] w fun e w' => e = .returned (.int .i64 (chk (okJ l))) ∧ Below w.heap.size w w' := by
  obtain ⟨o, c, rfl, hc1, hc2⟩ := HasRow.slice hl
  by_cases hlen : 1024 < l.length
  · have HV : Hid (chk (okJ l) = 2) := by
      show _ = _
      have : okJ l = false := by
        cases h : okJ l
        · rfl
        · have := okJ_len h; omega
      rw [this]; rfl
    have hq1 : decide ((1024 : Int) < (l.length : Int)) = true := decide_eq_true (by omega)
    have hq2 : decide (1024 < l.length) = true := decide_eq_true hlen
    generalize chk (okJ l) = R at *
    generalize l.length = n at *
    clear hl hf
    go_enter Try.func19, Try.ntmps19
    go_wp2_with fail
    go_ret
    exact ⟨by rw [HV.out]; rfl, Below.refl _ _⟩
  have hq1 : decide ((1024 : Int) < (l.length : Int)) = false := decide_eq_false (by omega)
  have hq2 : decide (1024 < l.length) = false := decide_eq_false hlen
  have HR : Hid (∀ wr : World, Below w.heap.size w wr → HasI wr (.slice o l.length c) l) := fun wr hb => hl.keep hb
  have HF : Hid (∀ x ∈ l, FitI x) := hf
  obtain ⟨R, hR⟩ : ∃ R, R = chk (okJ l) := ⟨_, rfl⟩
  have HBAD : Hid (okJ l = false → R = 2) := fun h => by rw [hR, h]; rfl
  have HGOOD : Hid (Up2 l → R = 0) := fun h => by rw [hR, okJ_iff.2 ⟨by omega, h⟩]; rfl
  rw [← hR]
  obtain ⟨n, hn⟩ : ∃ n, n = l.length := ⟨_, rfl⟩
  have HN : Hid (n = l.length) := hn
  rw [← hn] at HR hc1 hq1 hq2 ⊢
  have hni : (n : Int) ≤ 1024 := by omega
  clear hl hn hR hf hlen
  go_enter Try.func19, Try.ntmps19
  go_wp2_with fail
  go_loopw [10] (fun i wr => ∃ k : Nat, k ≤ n ∧ i = .int .i64 k ∧ Below w.heap.size w wr ∧ Hid (Up2 (l.take k))) (fun i _ => n - (Go.RowKit.intOf i).toNat)
  case atStart => exact ⟨0, by omega, rfl, Below.refl _ _, by rw [List.take_zero]; exact ⟨rfl, List.Pairwise.nil⟩⟩
  case round =>
    obtain ⟨k, hk, rfl, hB, HG⟩ := hrel
    have hh := HR.out _ hB
    by_cases hlt : k < n
    · have hkz : k < l.length := by rw [← HN.out]; exact hlt
      obtain ⟨g1, i1, rfl, hg1, a0, a1⟩ := HasI.cell hh k hkz
      have hfk := HF.out _ (List.getElem_mem hkz)
      have hki : (k : Int) < (n : Int) := by omega
      have c1 : ∀ W : World, Calls Try.prog 37 #[.agg #[.int .i64 l[k].1, .int .i64 l[k].2]] W fun e w' => e = .returned (.bool (okI l[k])) ∧ Below W.heap.size W w' := fun W => one_any l[k] W
      have HB1 : Hid (okI l[k] = false → okJ l = false) := fun h => by
        cases h2 : okJ l
        · rfl
        · rw [List.all_eq_true.1 (okJ_all h2) l[k] (List.getElem_mem hkz)] at h; cases h
      have HB2 : Hid (okI l[k] = true → k = 0 → Up2 (l.take (k + 1))) := fun h h0 => up2_step hkz HG.out h (fun j hj e => by omega)
      have HB3 : Hid (okI l[k] = true → ∀ (j : Nat) (hj : j < l.length), k = j + 1 → (l[j].2 + 1 < l[k].1 → Up2 (l.take (k + 1))) ∧ (¬ l[j].2 + 1 < l[k].1 → okJ l = false)) := fun h j hj e => ⟨fun h2 => up2_step hkz HG.out h (fun j2 hj2 e2 => by cases (show j2 = j by omega); exact h2), fun h2 => by
        cases h3 : okJ l
        · rfl
        · exact absurd (List.pairwise_iff_getElem.1 (up2_of h3).2 j k hj hkz (by omega)) h2⟩
      have HJB : Hid (∀ (j : Nat) (hj : j < l.length), k = j + 1 → 0 ≤ l[j].2 ∧ l[j].2 ≤ 1099511627776) := fun j hj e => by
        have := okI_iff.1 (List.all_eq_true.1 HG.out.1 l[j] (List.mem_take_iff_getElem.2 ⟨j, by omega, rfl⟩))
        omega
      have HK1 : Hid (FitT l[k].1) := hfk.1
      generalize okI l[k] = B1 at c1 HB1 HB2 HB3
      have HCJ : Hid (∀ (j : Nat) (hj : j < l.length) (W : World), Below w.heap.size w W → W.cell? ⟨g1, i1 + j * 2 + 1, none⟩ = some (.int .i64 l[j].2)) := fun j hj W hq => by
        obtain ⟨g2, i2, e12, _, _, b1⟩ := HasI.cell (HR.out _ hq) j hj
        injection e12 with e12
        injection e12 with e1 e2
        subst e1 e2
        exact b1
      obtain ⟨x, hx⟩ : ∃ x : Iv, x = l[k] := ⟨_, rfl⟩
      rw [← hx] at a0 a1 c1 HB3 HK1
      obtain ⟨x1, x2⟩ := x
      clear hx hg1 hfk HG hh
      simp only at a0 a1 c1 HB3 HK1
      go_upto_region 6 with fail
      obtain ⟨X, hX⟩ : ∃ X, X = wr.alloc (.cells #[.int .i64 x1, .int .i64 x2] 36) := ⟨_, rfl⟩
      have hbX : Below wr.heap.size wr X := by rw [hX]; exact below_new (Below.refl _ _) _
      have rk : RowAt X wr.heap.size [.int .i64 x1, .int .i64 x2] 36 := by rw [hX]; exact RowAt.new _ _ _
      rw [← hX]
      have hBX := below2 hB hbX
      clear hX hbX a0 a1 hB
      obtain ⟨gs, hgs⟩ : ∃ g, g = wr.heap.size := ⟨_, rfl⟩
      rw [← hgs] at rk ⊢
      clear hgs
      have v0 : ∀ q : Bl X, q.W.cell? ⟨gs, 0, none⟩ = some (.int .i64 x1) := fun q => (rk.below q.h).cell 0
      have v1 : ∀ q : Bl X, q.W.cell? ⟨gs, 1, none⟩ = some (.int .i64 x2) := fun q => (rk.below q.h).cell 1
      haveI := bl_ne X
      cases B1
      · have HV : Hid (R = 2) := HBAD.out (HB1.out rfl)
        clear HB1 HB2 HB3 HCJ HK1
        go_wp2_with fail
        refine wp_region_bl (by kernel_rfl) (by kernel_rfl) ?_
        repeat (go_big_quiet_step (first | (go_at_call 37; with_reducible exact bl_call (c1 _))))
        refine wpQuiet_nil ?_
        intro Y hw'
        obtain ⟨⟨wy, hqq⟩, hw2⟩ := hw'
        subst hw2
        have hBY := below2 hBX hqq
        clear v0 v1 c1 hqq
        go_wp2_with fail
        go_ret
        exact ⟨by rw [HV.out]; rfl, hBY⟩
      · by_cases hk0 : k = 0
        · have HS1 : Hid (Up2 (l.take (k + 1))) := HB2.out rfl hk0
          have hz1 : decide ((0 : Int) < (k : Int)) = false := decide_eq_false (by omega)
          have hz2 : decide (0 < k) = false := decide_eq_false (by omega)
          clear HB1 HB2 HB3 hk0 HCJ HK1
          go_wp2_with fail
          refine wp_region_bl (by kernel_rfl) (by kernel_rfl) ?_
          repeat (go_big_quiet_step (first | (go_at_call 37; with_reducible exact bl_call (c1 _))))
          refine wpQuiet_nil ?_
          intro Y hw'
          obtain ⟨⟨wy, hqq⟩, hw2⟩ := hw'
          subst hw2
          have hBY := below2 hBX hqq
          clear v0 v1 c1 hqq
          go_wp2_with fail
          go_roundw
          case rel => exact ⟨k + 1, by omega, by go_num, hBY, HS1⟩
          case measure => simp [Go.RowKit.intOf]; omega
        · obtain ⟨j, hj⟩ : ∃ j, k = j + 1 := ⟨k - 1, by omega⟩
          have hj2 : j < l.length := by omega
          obtain ⟨HN1, HN2⟩ := HB3.out rfl j hj2 hj
          have HN1 : Hid (l[j].2 + 1 < x1 → Up2 (l.take (k + 1))) := HN1
          have HN2 : Hid (¬ l[j].2 + 1 < x1 → okJ l = false) := HN2
          have hyb := HJB.out j hj2 hj
          have hz1 : decide ((0 : Int) < (k : Int)) = true := decide_eq_true (by omega)
          have hz2 : decide (0 < k) = true := decide_eq_true (by omega)
          have hz0 : (0 : Int) < (k : Int) := by omega
          have hsub : (k : Int) - 1 = (j : Int) := by omega
          have hwj : IntKind.i64.wrap (j : Int) = (j : Int) := by rw [IntKind.wrap_i64]; omega
          have hlt1 : (j : Int) < (n : Int) := by omega
          have u1 : ∀ q : Bl X, q.W.cell? ⟨g1, i1 + j * 2 + 1, none⟩ = some (.int .i64 l[j].2) := fun q => HCJ.out j hj2 q.W (below2 hBX q.h)
          clear HB1 HB2 HB3 HCJ HK1 HJB hj hk0
          generalize l[j].2 = y at *
          have hwy : IntKind.i64.wrap (y + 1) = y + 1 := by rw [IntKind.wrap_i64]; omega
          by_cases hgap : y + 1 < x1
          · have hd : decide (x1 ≤ y + 1) = false := decide_eq_false (by omega)
            have HS1 : Hid (Up2 (l.take (k + 1))) := HN1.out hgap
            clear HN1 HN2
            go_wp2_with fail
            refine wp_region_bl (by kernel_rfl) (by kernel_rfl) ?_
            repeat (go_big_quiet_step (first | (go_at_call 37; with_reducible exact bl_call (c1 _))))
            refine wpQuiet_nil ?_
            intro Y hw'
            obtain ⟨⟨wy, hqq⟩, hw2⟩ := hw'
            subst hw2
            have hBY := below2 hBX hqq
            clear v0 v1 c1 hqq u1
            go_wp2_with fail
            go_roundw
            case rel => exact ⟨k + 1, by omega, by go_num, hBY, HS1⟩
            case measure => simp [Go.RowKit.intOf]; omega
          · have hd : decide (x1 ≤ y + 1) = true := decide_eq_true (by omega)
            have HV : Hid (R = 2) := HBAD.out (HN2.out hgap)
            clear HN1 HN2
            go_wp2_with fail
            refine wp_region_bl (by kernel_rfl) (by kernel_rfl) ?_
            repeat (go_big_quiet_step (first | (go_at_call 37; with_reducible exact bl_call (c1 _))))
            refine wpQuiet_nil ?_
            intro Y hw'
            obtain ⟨⟨wy, hqq⟩, hw2⟩ := hw'
            subst hw2
            have hBY := below2 hBX hqq
            clear v0 v1 c1 hqq u1
            go_wp2_with fail
            go_ret
            exact ⟨by rw [HV.out]; rfl, hBY⟩
    · have hkn : decide ((k : Int) < (n : Int)) = false := decide_eq_false (by omega)
      have HV : Hid (R = 0) := HGOOD.out (by have h0 := HG.out; rw [List.take_of_length_le (by have := HN.out; omega)] at h0; exact h0)
      clear HG hh
      go_wp2_with fail
      go_ret
      exact ⟨by rw [HV.out]; rfl, hB⟩
set_option maxHeartbeats 4000000 in
set_option maxRecDepth 20000 in
theorem rlong_any (l : List Iv) (v : Value) (w : World) (hl : HasI w v l) (hf : ∀ x ∈ l, FitI x) :
    Calls Try.prog 16 #[v] w fun e w' => e = .returned (.tuple #[.int .i64 (longJ l).1, .int .i64 (longJ l).2]) ∧ Below w.heap.size w w' := by
  have ck := rchk_any l v w hl hf
  obtain ⟨o, c, rfl, hc1, hc2⟩ := HasRow.slice hl
  cases hok : okJ l
  · have HV : Hid (longJ l = (0, 2)) := by show _ = _; unfold longJ; rw [hok]; rfl
    rw [hok] at ck
    unfold chk at ck
    simp only [Bool.false_eq_true, if_false] at ck
    generalize longJ l = R at *
    generalize l.length = n at *
    clear hl hf hok
    go_enter Try.func16, Try.ntmps16
    go_wp2_with fail
    go_at_call 19; refine ck.mono ?_; rintro e w2 ⟨rfl, hb⟩
    go_wp2_with fail
    go_ret2
    exact ⟨by rw [HV.out]; rfl, hb⟩
  · have HV : Hid (longJ l = (longI l, 0)) := by show _ = _; unfold longJ; rw [hok]; rfl
    rw [hok] at ck
    unfold chk at ck
    simp only [if_true] at ck
    have hab := (Bool.and_eq_true _ _).mp (show (l.all okI && okB true (l.map toS)) = true from hok)
    have ln := (okB_iff.1 hab.2).1
    rw [List.length_map] at ln
    have HR : Hid (∀ wr : World, Below w.heap.size w wr → HasI wr (.slice o l.length c) l) := fun wr hb => hl.keep hb
    have HOK : Hid (∀ x ∈ l, okI x = true) := List.all_eq_true.1 hab.1
    obtain ⟨n, hn⟩ : ∃ n, n = l.length := ⟨_, rfl⟩
    have HN : Hid (n = l.length) := hn
    rw [← hn] at HR hc1 ln ck ⊢
    have hni : (n : Int) ≤ 1024 := by omega
    generalize longJ l = R at *
    clear hl hf hn hok hab
    go_enter Try.func16, Try.ntmps16
    go_wp2_with fail
    go_at_call 19; refine ck.mono ?_; rintro e w2 ⟨rfl, hb⟩
    clear ck
    go_wp2_with fail
    go_loopw [4, 12] (fun m q wr => ∃ (k : Nat) (s : Int), k ≤ n ∧ m = .int .i64 s ∧ q = .int .i64 k ∧ Below w.heap.size w wr ∧ (0 ≤ s ∧ s ≤ (k : Int) * 1099511627777) ∧ Hid (s = longI (l.take k))) (fun _ q _ => n - (Go.RowKit.intOf q).toNat)
    case atStart => exact ⟨0, 0, by omega, rfl, rfl, hb, by omega, rfl⟩
    case round =>
      obtain ⟨k, s, hk, rfl, rfl, hB, hs, HS⟩ := hrel
      by_cases hlt : k < n
      · have hkz : k < l.length := by rw [← HN.out]; exact hlt
        obtain ⟨g1, i1, rfl, hg1, a0, a1⟩ := HasI.cell (HR.out _ hB) k hkz
        have hxo := okI_iff.1 (HOK.out _ (List.getElem_mem hkz))
        have HA : Hid (longI (l.take (k + 1)) = longI (l.take k) + (l[k].2 - l[k].1 + 1)) := longI_snoc l k hkz
        have hki : (k : Int) < (n : Int) := by omega
        obtain ⟨x, hx⟩ : ∃ x : Iv, x = l[k] := ⟨_, rfl⟩
        rw [← hx] at HA a0 a1 hxo
        obtain ⟨x1, x2⟩ := x
        simp only at HA a0 a1 hxo
        clear hx hg1
        have hw1 : IntKind.i64.wrap (x2 - x1) = x2 - x1 := by rw [IntKind.wrap_i64]; omega
        have hw2 : IntKind.i64.wrap (x2 - x1 + 1) = x2 - x1 + 1 := by rw [IntKind.wrap_i64]; omega
        have hw3 : IntKind.i64.wrap (s + (x2 - x1 + 1)) = s + (x2 - x1 + 1) := by rw [IntKind.wrap_i64]; omega
        have HS2 : Hid (s + (x2 - x1 + 1) = longI (l.take (k + 1))) := by show _ = _; rw [HA.out, ← HS.out]
        have hs2 : 0 ≤ s + (x2 - x1 + 1) ∧ s + (x2 - x1 + 1) ≤ ((k + 1 : Nat) : Int) * 1099511627777 := by
          have : ((k + 1 : Nat) : Int) * 1099511627777 = (k : Int) * 1099511627777 + 1099511627777 := by omega
          omega
        go_upto_region 7 with fail
        obtain ⟨X, hX⟩ : ∃ X, X = wr.alloc (.cells #[.int .i64 x1, .int .i64 x2] 36) := ⟨_, rfl⟩
        have hbX : Below wr.heap.size wr X := by rw [hX]; exact below_new (Below.refl _ _) _
        have r0 : RowAt X wr.heap.size [.int .i64 x1, .int .i64 x2] 36 := by rw [hX]; exact RowAt.new _ _ _
        rw [← hX]
        have hBX := below2 hB hbX
        obtain ⟨gs, hgs⟩ : ∃ g, g = wr.heap.size := ⟨_, rfl⟩
        rw [← hgs] at r0 ⊢
        clear hX hbX a0 a1 hgs HA HS
        obtain ⟨p0, p1, pf⟩ := cells2 r0
        go_wp2_with fail
        go_roundw
        case rel => exact ⟨k + 1, _, by omega, rfl, by go_num, hBX, hs2, HS2⟩
        case measure => simp [Go.RowKit.intOf]; omega
      · have hkn : decide ((k : Int) < (n : Int)) = false := decide_eq_false (by omega)
        have hte : l.take k = l := by have := HN.out; exact List.take_of_length_le (by omega)
        have HS2 : Hid (s = longI l) := by rw [hte] at HS; exact HS.out
        clear HS hte
        go_wp2_with fail
        go_ret2
        exact ⟨by rw [HV.out, ← HS2.out]; rfl, hB⟩
set_option maxHeartbeats 2000000 in
theorem rhas_any (l : List Iv) (t : Int) (v : Value) (w : World) (hl : HasI w v l) (hf : ∀ x ∈ l, FitI x) :
    Calls Try.prog 14 #[v, .int .i64 t] w fun e w' => e = .returned (.tuple #[.bool (hasJ l t).1, .int .i64 (hasJ l t).2]) ∧ Below w.heap.size w w' := by
  have ck := rchk_any l v w hl hf
  have cin := fun (W : World) (hq : Below w.heap.size w W) => rin_any l t v W (hl.keep hq)
  obtain ⟨o, c, rfl, hc1, hc2⟩ := HasRow.slice hl
  cases hok : okJ l
  · have HV : Hid (hasJ l t = (false, 2)) := by show _ = _; unfold hasJ; rw [hok]; rfl
    rw [hok] at ck
    unfold chk at ck
    simp only [Bool.false_eq_true, if_false] at ck
    generalize hasJ l t = R at *
    generalize l.length = n at *
    clear hl hok hf cin
    go_enter Try.func14, Try.ntmps14
    go_wp2_with fail
    go_at_call 19; refine ck.mono ?_; rintro e w2 ⟨rfl, hb⟩
    go_wp2_with fail
    go_ret2
    exact ⟨by rw [HV.out]; rfl, hb⟩
  · have HV : Hid (hasJ l t = (inI l t, 0)) := by show _ = _; unfold hasJ; rw [hok]; rfl
    rw [hok] at ck
    unfold chk at ck
    simp only [if_true] at ck
    generalize hasJ l t = R at *
    generalize inI l t = B at *
    generalize l.length = n at *
    clear hl hok hf
    go_enter Try.func14, Try.ntmps14
    go_wp2_with fail
    go_at_call 19; refine ck.mono ?_; rintro e w2 ⟨rfl, hb⟩
    go_wp2_with fail
    go_at_call 41; refine (cin _ hb).mono ?_; rintro e w3 ⟨rfl, hb3⟩
    have hB := below2 hb hb3
    clear ck cin
    go_wp2_with fail
    go_ret2
    exact ⟨by rw [HV.out]; rfl, hB⟩
end Go.Proofs.Ytebjklhffccomaa.Iv
namespace Go.Proofs.Ytebjklhffccomaa.Iv
open Go.RowKit
open Go.Proofs.Ytebjklhffccomaa.Lk (HasRow hasRow_own append_row own_copy addr_add)
open Go.Proofs.Ytebjklhffccomaa.Sp (own_below)
open Go.Proofs.Ytebjklhffccomaa.Ct (Up insN sortN up_sortN mem_sortN sortN_len sortN_snoc insN_at insN_in info_parts)
open Go.Proofs.Ytebjklhffccomaa.Addr (RowAt below2 below_drew below_new bset RowAt.lt RowAt.cell RowAt.frozen RowAt.below RowAt.drew RowAt.new RowAt.alloc RowAt.gkeep)
attribute [-go_sem] Builtin.append_
theorem sizeT : (Try.prog.info? 2).map (·.size) = some 1 := by kernel_rfl
def zs (l : List Nat) : List Int := l.map (fun n : Nat => (n : Int))
theorem zs_len (l : List Nat) : (zs l).length = l.length := List.length_map _
theorem csT_one_at (l : List Int) (j : Nat) : (csT l)[j]? = l[j]?.map (fun x => Value.int .i64 x) := by
  induction l generalizing j with
  | nil => rfl
  | cons x l ih =>
    cases j with
    | zero => rfl
    | succ j => exact ih j
theorem csT_map (l : List Int) : csT l = l.map (fun x => Value.int .i64 x) := by
  induction l with
  | nil => rfl
  | cons x l ih => show _ :: csT l = _ :: _; rw [ih]
theorem put_tms {w0 W : World} {B : Nat} {u : Value} {O : List Int} (p : Int) (i : Nat) (hi : i ≤ O.length) (ho : W.ownsRow B 2 1 u O.length (csT O)) (hB : B ≤ W.heap.size) (hb0 : Below B w0 W) (hO : O.length ≤ 1000000) (hnil : O.length = 0 → u = .slice none 0 0) :
    ∃ g cap W2 W3, (∀ ty, (Builtin.append_ #[107, 107] ty #[u, .slice (some ⟨W.heap.size, 0, none⟩) 1 1]).run Try.prog (W.alloc (.cells #[.int .i64 0] 2)) = .ok (.slice (some ⟨g, 0, none⟩) (O.length + 1) cap) W2) ∧ O.length + 1 ≤ cap ∧ cap ≤ 9223372036854775807 ∧
      (∀ sT ty o0, (i < O.length → o0 = i + 1) → (Builtin.copy_ #[107, sT] ty #[.slice (some ⟨g, o0, none⟩) (O.length + 1 - (i + 1)) (cap - (i + 1)), .slice (some ⟨g, i, none⟩) (O.length + 1 - i) (cap - i)]).run Try.prog W2.drew = .ok (goInt (O.length - i : Nat)) W3) ∧
      (∃ z0, W3.cell? ⟨g, i, none⟩ = some z0) ∧ (∀ j, W3.frozen? ⟨g, j, none⟩ = false) ∧ (W3.setCell ⟨g, i, none⟩ (.int .i64 p)).ownsRow B 2 1 (.slice (some ⟨g, 0, none⟩) (O.length + 1) cap) (O.length + 1) (csT (O.take i ++ p :: O.drop i)) ∧
      B ≤ g ∧ Below B w0 W3 ∧ B ≤ W3.heap.size := by
  obtain ⟨V, hV⟩ : ∃ V, V = W.alloc (.cells #[.int .i64 0] 2) := ⟨_, rfl⟩
  have hbN : Below W.heap.size W V := by rw [hV]; exact below_new (Below.refl _ _) _
  have hlit : HasT V (.slice (some ⟨W.heap.size, 0, none⟩) 1 1) [0] := by rw [hV]; exact litT W 0 2
  have hB1 : B ≤ V.heap.size := Nat.le_trans hB hbN.size
  have hl1 : (csT O).length = O.length := by rw [csT_len]; omega
  obtain ⟨g, cap, W2, hrun, h1, h2, hnc, hcm, hgb⟩ : ∃ g cap W2, (∀ ty, (Builtin.append_ #[107, 107] ty #[u, .slice (some ⟨W.heap.size, 0, none⟩) 1 1]).run Try.prog V = .ok (.slice (some ⟨g, 0, none⟩) (O.length + 1) cap) W2) ∧ W2.ownsRow B 2 1 (.slice (some ⟨g, 0, none⟩) (O.length + 1) cap) (O.length + 1) (csT O ++ csT [0]) ∧ V.grownBy W2 u.ownBlock ∧ O.length + 1 ≤ cap ∧ cap ≤ 9223372036854775807 ∧ B ≤ g := by
    by_cases h0 : O.length = 0
    · have hu := hnil h0
      have hO0 : O = [] := List.eq_nil_of_length_eq_zero h0
      subst hu hO0
      obtain ⟨v', W2, hrun, h1, h2⟩ := append_row infoT Try.underlying107 rfl (by decide) (World.ownsRow_nil V V.heap.size 2 1) hlit (one_csT [0]) (by decide) (by decide) (Nat.le_refl _)
      rcases h1.2 with ⟨_, h0⟩ | ⟨g, cap, cur, rfl, hgb, hgc, hnc, hcm, hcs, htk⟩
      · exact absurd h0 (by decide)
      · exact ⟨g, cap, W2, hrun, ⟨h1.1, .inr ⟨g, cap, cur, rfl, Nat.le_trans hB1 hgb, hgc, hnc, hcm, hcs, htk⟩⟩, h2, hnc, by unfold maxLen at hcm; exact hcm, Nat.le_trans hB1 hgb⟩
    · obtain ⟨v', W2, hrun, h1, h2⟩ := append_row infoT Try.underlying107 rfl (by decide) (own_below ho hbN) hlit (one_csT [0]) (by simp only [List.length_cons, List.length_nil]; omega) (by simp only [List.length_cons, List.length_nil]; omega) hB1
      simp only [List.length_cons, List.length_nil, Nat.zero_add] at h1
      rcases h1.2 with ⟨_, h0⟩ | ⟨g, cap, cur, rfl, hgb, hgc, hnc, hcm, hcs, htk⟩
      · omega
      · exact ⟨g, cap, W2, hrun, h1, h2, hnc, by unfold maxLen at hcm; exact hcm, hgb⟩
  rw [hV] at hrun
  have hb2 : Below B w0 W2 := (hb0.trans (Below.mono hbN hB)).grown h2 hB1 (fun k e => (ho.lt k e).1)
  have hB2 : B ≤ W2.heap.size := Nat.le_trans hB1 h2.size
  obtain ⟨W3, hr3, h3, h4⟩ : ∃ W3, (∀ sT ty o0, (i < O.length → o0 = i + 1) → (Builtin.copy_ #[107, sT] ty #[.slice (some ⟨g, o0, none⟩) (O.length + 1 - (i + 1)) (cap - (i + 1)), .slice (some ⟨g, i, none⟩) (O.length + 1 - i) (cap - i)]).run Try.prog W2.drew = .ok (goInt (O.length - i : Nat)) W3) ∧ W3.ownsRow B 2 1 (.slice (some ⟨g, 0, none⟩) (O.length + 1) cap) (O.length + 1) ((csT O ++ csT [0]).take (i + 1) ++ (csT O).drop i) ∧ W2.drew.grownBy W3 (some g) := by
    have hl2 : (csT O ++ csT [0]).length = O.length + 1 := by rw [List.length_append, hl1]; rfl
    have hsrc : ∀ j v, ((csT O).drop i)[j]? = some v → W2.drew.cell? ((⟨g, i, none⟩ : Addr).add j) = some v := fun j v hj => by
      have hjl := (List.getElem?_eq_some_iff.1 hj).1
      rw [List.length_drop, hl1] at hjl
      rw [addr_add, show W2.drew.cell? ⟨g, i + j, none⟩ = W2.cell? ⟨g, i + j, none⟩ from rfl, h1.cellAt _ (by omega), List.getElem?_append_left (by omega), ← List.getElem?_drop]
      exact hj
    have h1d : W2.drew.ownsRow B 2 1 (.slice (some ⟨g, 0, none⟩) (O.length + 1) cap) (O.length + 1) (csT O ++ csT [0]) := h1
    have h1c : ∀ v ∈ (csT O).drop i, v.oneCell' = true := fun v hv => one_csT O v (List.mem_of_mem_drop hv)
    by_cases hio : i < O.length
    · obtain ⟨W3, r1, r2, r3⟩ := own_copy Try.underlying107 sizeT h1d (i + 1) (O.length + 1 - (i + 1)) (cap - (i + 1)) ⟨g, i, none⟩ (O.length + 1 - i) (cap - i) (O.length - i) ((csT O).drop i) (by simp only [Nat.min_def]; split <;> omega) (by rw [List.length_drop, hl1]; omega) (by omega) hsrc h1c
      simp only [Nat.mul_one] at r1 r2
      refine ⟨W3, fun sT ty o0 h0 => ?_, ?_, r3⟩
      · rw [h0 hio]
        exact r1 sT ty
      · rw [List.drop_of_length_le (l := csT O ++ csT [0]) (by omega), List.append_nil] at r2
        exact r2
    · have hie : i = O.length := by omega
      refine ⟨W2.drew, fun sT ty o0 _ => ?_, ?_, ⟨rfl, rfl, rfl, Nat.le_refl _, fun _ _ _ => rfl⟩⟩
      · obtain ⟨i0, hi0, hz0, hz1, hz2⟩ := info_parts infoT
        have hm1 : O.length - i = 0 := by omega
        have hld : (loadCells ⟨g, i, none⟩ 0).run Try.prog W2.drew = .ok #[] W2.drew := by simpa using run_loadCells_list (P := Try.prog) W2.drew ⟨g, i, none⟩ [] (by simp)
        simp [Builtin.copy_, run_underlying Try.underlying107, Builtin.lenOf, Builtin.firstCells, sizeOf, typeInfo, hi0, hm1, hld, storeCells]
      · rw [List.take_of_length_le (by omega), List.drop_of_length_le (by omega), List.append_nil]
        exact h1d
  have h5 := h3.stored i (.int .i64 p)
  have hfin : (((csT O ++ csT [0]).take (i + 1) ++ (csT O).drop i).set i (.int .i64 p)) = csT (O.take i ++ p :: O.drop i) := by
    rw [← csT_app, csT_map, csT_map, csT_map, ← List.map_take, ← List.map_drop, ← List.map_append, ← List.map_set]
    congr 1
    have e1 : (O ++ [0]).take (i + 1) = O.take i ++ ((O ++ [0]).drop i).take 1 := by
      rw [List.take_add, List.take_append_of_le_length (by omega)]
    have e2 : (((O ++ [0]).drop i).take 1).length = 1 := by rw [List.length_take, List.length_drop, List.length_append]; simp; omega
    obtain ⟨z, hz⟩ : ∃ z, ((O ++ [0]).drop i).take 1 = [z] := List.length_eq_one_iff.1 e2
    rw [e1, hz, List.append_assoc, List.set_append_right _ _ (by rw [List.length_take]; omega), List.length_take, Nat.min_eq_left (by omega), Nat.sub_self, List.singleton_append, List.set_cons_zero]
  rw [hfin] at h5
  refine ⟨g, cap, W2, W3, hrun, hnc, hcm, hr3, ?_, fun j => h3.frozenAt j, h5.1, hgb, ?_, ?_⟩
  · have k0 := h3.cellAt i (by omega)
    exact ⟨_, k0.trans (List.getElem?_eq_getElem (by rw [h3.1]; omega))⟩
  · exact (below_drew hb2).grown h4 hB2 (fun k e => by injection e with e; omega)
  · exact Nat.le_trans hB2 h4.size
def NilIf (n : Nat) (u : Value) : Prop := n = 0 → u = .slice none 0 0
theorem zs_cut (O : List Nat) (p i : Nat) : zs (O.take i ++ p :: O.drop i) = (zs O).take i ++ (p : Int) :: (zs O).drop i := by
  unfold zs
  rw [List.map_append, List.map_cons, List.map_take, List.map_drop]
def SO (w : World) (l : List Nat) (k : Nat) (u : Value) (wr : World) : Prop := wr.ownsRow w.heap.size 2 1 u (sortN (l.take k)).length (csT (zs (sortN (l.take k)))) ∧ Below w.heap.size w wr ∧ NilIf (sortN (l.take k)).length u
set_option maxHeartbeats 8000000 in
set_option maxRecDepth 20000 in
theorem rsorted_any (l : List Nat) (v : Value) (w : World) (hl : HasT w v (zs l)) (hlen : l.length ≤ 1000000) :
    Calls Try.prog 67 #[v] w fun e w' => ∃ u, e = .returned u ∧ HasT w' u (zs (sortN l)) ∧ Below w.heap.size w w' := by
  obtain ⟨o, c, rfl, hc1, hc2⟩ := HasRow.slice hl
  rw [zs_len] at hc1 hl ⊢
  have HR : Hid (∀ wr : World, Below w.heap.size w wr → HasT wr (.slice o l.length c) (zs l)) := fun wr hb => hl.keep hb
  obtain ⟨n, hn⟩ : ∃ n, n = l.length := ⟨_, rfl⟩
  have HN : Hid (n = l.length) := hn
  rw [← hn] at HR hc1 hlen ⊢
  have hni : (n : Int) ≤ 1000000 := by omega
  clear hl hn
  have H0 : Hid (SO w l 0 (.slice none 0 0) w) := ⟨by rw [List.take_zero]; exact World.ownsRow_nil w w.heap.size 2 1, Below.refl _ _, fun _ => rfl⟩
  go_enter Try.func67, Try.ntmps67
  go_wp2_with fail
  go_loopw [3, 9] (fun u q wr => ∃ k : Nat, k ≤ n ∧ q = .int .i64 k ∧ Hid (SO w l k u wr)) (fun _ q _ => n - (Go.RowKit.intOf q).toNat)
  case atStart => exact ⟨0, by omega, rfl, H0⟩
  case round =>
    obtain ⟨k, hk, rfl, HI⟩ := hrel
    clear H0
    by_cases hlt : k < n
    · have hkz : k < l.length := by rw [← HN.out]; exact hlt
      obtain ⟨g1, i1, rfl, hg1, a0⟩ := HasT.cell (HR.out _ HI.out.2.1) k (by rw [zs_len]; exact hkz)
      have e9 : (zs l)[k]'(by rw [zs_len]; exact hkz) = (l[k] : Int) := List.getElem_map _
      rw [e9] at a0
      have HS : Hid (sortN (l.take (k + 1)) = insN (sortN (l.take k)) l[k]) := sortN_snoc l k hkz
      have HU : Hid (Up (sortN (l.take k))) := up_sortN _
      have HL : Hid ((sortN (l.take k)).length ≤ 999999) := by
        have := sortN_len (l.take k)
        rw [List.length_take] at this
        show _ ≤ _
        omega
      have hki : (k : Int) < (n : Int) := by omega
      clear e9
      generalize l[k] = p at a0 HS
      have HTO : Hid (∀ u' wr', (wr'.ownsRow w.heap.size 2 1 u' (sortN (l.take (k + 1))).length (csT (zs (sortN (l.take (k + 1))))) ∧ Below w.heap.size w wr' ∧ NilIf (sortN (l.take (k + 1))).length u') → SO w l (k + 1) u' wr') := fun u' wr' h => h
      obtain ⟨hO, hbr, hnil⟩ : wr.ownsRow w.heap.size 2 1 u3 (sortN (l.take k)).length (csT (zs (sortN (l.take k)))) ∧ Below w.heap.size w wr ∧ NilIf (sortN (l.take k)).length u3 := HI.out
      generalize sortN (l.take k) = O at HS HU HL hO hnil
      clear HI hg1
      have hO2 : wr.ownsRow w.heap.size 2 1 u3 (zs O).length (csT (zs O)) := by rw [zs_len]; exact hO
      obtain ⟨o1, c1, rfl, hq1, hq2⟩ := HasRow.slice (hasRow_own hO2)
      rw [zs_len] at hO2 hq1 hnil ⊢
      have HNIL : Hid (NilIf O.length (.slice o1 O.length c1)) := hnil
      have HO : Hid (wr.ownsRow w.heap.size 2 1 (.slice o1 O.length c1) O.length (csT (zs O))) := hO2
      have hm := HL.out
      obtain ⟨m, hmd⟩ : ∃ m, m = O.length := ⟨_, rfl⟩
      have HM : Hid (m = O.length) := hmd
      have H1 : Hid (∀ j (h : j < O.length), m ≤ j → p < O[j]) := fun j h hj => by omega
      have hwB : w.heap.size ≤ wr.heap.size := hbr.size
      rw [← hmd] at hm hq1 ⊢
      have hmi : (m : Int) ≤ 999999 := by omega
      clear hO hO2 hmd hnil
      go_wp2_with fail
      clear a0
      obtain ⟨X, hX⟩ : ∃ X, X = wr := ⟨_, rfl⟩
      subst hX
      go_loopw [6] (fun q wr2 => ∃ i : Nat, i ≤ m ∧ q = .int .i64 i ∧ Hid (∀ j (h : j < O.length), i ≤ j → p < O[j]) ∧ wr2 = X) (fun q _ => (Go.RowKit.intOf q).toNat)
      case atStart => exact ⟨m, Nat.le_refl _, rfl, H1, rfl⟩
      case round =>
        obtain ⟨i, hi, rfl, HJ, rfl⟩ := hrel
        have hli : (i : Int) ≤ 999999 := by omega
        by_cases hi0 : 0 < i
        · obtain ⟨j, hj⟩ : ∃ j, i = j + 1 := ⟨i - 1, by omega⟩
          have hjO : j < O.length := by have := HM.out; omega
          obtain ⟨b2, i2, rfl, _, b0⟩ := HasT.cell (l := zs O) (show HasT wr (.slice o1 O.length c1) (zs O) from by have h8 := HO.out; rw [← zs_len] at h8 ⊢; exact hasRow_own h8) j (by rw [zs_len]; exact hjO)
          have e9 : (zs O)[j]'(by rw [zs_len]; exact hjO) = (O[j] : Int) := List.getElem_map _
          rw [e9] at b0
          clear e9
          have hip : (0 : Int) < (i : Int) := by omega
          have hip1 : decide ((0 : Int) < (i : Int)) = true := decide_eq_true hip
          have hip2 : decide (0 < i) = true := decide_eq_true hi0
          have hsub : (i : Int) - 1 = (j : Int) := by omega
          have hwj : IntKind.i64.wrap (j : Int) = (j : Int) := by rw [IntKind.wrap_i64]; omega
          have hlt1 : (j : Int) < (m : Int) := by omega
          generalize hq : O[j] = q at b0
          have HQ2 : Hid (∀ h : j < O.length, O[j] = q) := fun _ => hq
          have HIJ : Hid (i = j + 1) := hj
          clear hq hj hjO
          by_cases hpq : p < q
          · have hd1 : decide (p < q) = true := decide_eq_true hpq
            have hd2 : decide ((p : Int) < (q : Int)) = true := decide_eq_true (by omega)
            have HJ2 : Hid (∀ y (h : y < O.length), j ≤ y → p < O[y]) := fun y h hy => by
              by_cases e : y = j
              · subst e; rw [HQ2.out]; exact hpq
              · exact HJ.out y h (by have := HIJ.out; omega)
            clear HTO
            go_wp2_with fail
            go_roundw
            case rel => exact ⟨j, by have := HIJ.out; omega, by first | rfl | (rw [← hsub]) | go_num, HJ2, by first | trivial | rfl⟩
            case measure => have := HIJ.out; simp [Go.RowKit.intOf]; omega
          · have hd1 : decide (p < q) = false := decide_eq_false hpq
            have hd2 : decide ((p : Int) < (q : Int)) = false := decide_eq_false (by omega)
            by_cases hqp : q = p
            · have HF : Hid (SO w l (k + 1) (.slice (some ⟨b2, i2, none⟩) m c1) wr) := by
                have hmem : p ∈ O := by rw [← hqp, ← HQ2.out (by have := HIJ.out; have := HM.out; omega)]; exact List.getElem_mem _
                have e7 : sortN (l.take (k + 1)) = O := by rw [HS.out, insN_in HU.out hmem]
                refine HTO.out _ _ ?_
                rw [e7]
                have h0 := HM.out
                refine ⟨?_, hbr, fun h => by rw [h0]; exact HNIL.out h⟩
                rw [h0]
                exact HO.out
              subst hqp
              clear HTO
              go_wp2_with fail
              go_roundw
              case rel => first | exact ⟨k + 1, by omega, by go_num, HF⟩ | ((repeat apply Exists.intro); refine ⟨?_, rfl⟩; exact ⟨k + 1, by omega, by go_num, HF⟩)
              case measure => simp [Go.RowKit.intOf]; omega
            have hq1 : ((q : Int) == (p : Int)) = false := beq_eq_false_iff_ne.2 (by omega)
            have hq2 : (q == p) = false := beq_eq_false_iff_ne.2 hqp
            have hq3 : ¬ (q : Int) = (p : Int) := by omega
            have HA : Hid (∀ y (h : y < O.length), y < i → O[y] < p) := fun y h hy => by
              have h0 := HIJ.out
              have h1 := HQ2.out (by have := HM.out; omega)
              by_cases e : y = j
              · subst e; omega
              · have h2 := List.pairwise_iff_getElem.1 HU.out y j h (by have := HM.out; omega) (by omega)
                omega
            have HE : Hid (sortN (l.take (k + 1)) = O.take i ++ p :: O.drop i) := by
              show _ = _
              rw [HS.out, insN_at HU.out p i (by have := HM.out; omega) HJ.out HA.out]
            obtain ⟨g, cap, W2, W3, hrun, hcp1, hcp2, hcp, ⟨z0, hz0⟩, hfz, hown, hBg, hbW3, hBW3⟩ := put_tms (w0 := w) (W := wr) (B := w.heap.size) (O := zs O) (p : Int) i (by rw [zs_len]; have := HM.out; omega) (by rw [zs_len]; exact HO.out) hwB hbr (by rw [zs_len]; have := HM.out; omega) (by rw [zs_len]; exact HNIL.out)
            rw [zs_len, ← HM.out] at hrun hcp1 hcp
            have HF : Hid (SO w l (k + 1) (.slice (some ⟨g, 0, none⟩) (m + 1) cap) (W3.setCell ⟨g, i, none⟩ (.int .i64 (p : Int)))) := by
              have h9 := hown
              rw [zs_len, ← HM.out, ← zs_cut, ← HE.out] at h9
              have e8 : (sortN (l.take (k + 1))).length = m + 1 := by rw [HE.out]; have := HM.out; simp; omega
              refine HTO.out _ _ ⟨by rw [e8]; exact h9, bset hbW3 hBg, fun h => ?_⟩
              rw [e8] at h; omega
            clear hown hbW3 hBW3 HE HO HJ HTO HA
            have mixed : Try.prog.follows Departure.mixedOrders = true := by kernel_rfl
            have hw1 : IntKind.i64.wrap ((i : Int) + 1) = (i : Int) + 1 := by rw [IntKind.wrap_i64]; omega
            have hb1 : (0 : Int) ≤ (i : Int) + 1 := by omega
            have hle1 : (i : Int) + 1 ≤ (m : Int) + 1 := by omega
            have hle2 : (i : Int) ≤ (m : Int) + 1 := by omega
            have him : i ≤ m := by omega
            have htn : ((i : Int) + 1).toNat = i + 1 := by omega
            have hci : ¬ cap = i := by omega
            have hlt2 : (i : Int) < (m : Int) + 1 := by omega
            go_wp2_with fail
            by_cases hcapi : cap = i + 1
            · subst hcapi
              have hm0 : m - i = 0 := by omega
              have hq := hcp 107 3 0 (by have := HM.out; intro h; omega)
              go_region_law_o (refine Lk.copy_step rfl _ _ 107 107 rfl (by simp [Act.eval, Act.put, hm0]) (by simp [Act.eval, Act.put]) hq ?_)
              go_wp2_with fail
              go_roundw
              case rel => first | exact ⟨k + 1, by omega, by go_num, HF⟩ | ((repeat apply Exists.intro); refine ⟨?_, rfl⟩; exact ⟨k + 1, by omega, by go_num, HF⟩)
              case measure => simp [Go.RowKit.intOf]; omega
            · have hq := hcp 107 3 (i + 1) (fun _ => rfl)
              go_region_law_o (refine Lk.copy_step rfl _ _ 107 107 rfl (by simp [Act.eval, Act.put]) (by simp [Act.eval, Act.put]) hq ?_)
              go_wp2_with fail
              go_roundw
              case rel => first | exact ⟨k + 1, by omega, by go_num, HF⟩ | ((repeat apply Exists.intro); refine ⟨?_, rfl⟩; exact ⟨k + 1, by omega, by go_num, HF⟩)
              case measure => simp [Go.RowKit.intOf]; omega
        · have hip : ¬ ((0 : Int) < (i : Int)) := by omega
          have hip1 : decide ((0 : Int) < (i : Int)) = false := decide_eq_false hip
          have hip2 : decide (0 < i) = false := decide_eq_false hi0
          have HA : Hid (∀ y (h : y < O.length), y < i → O[y] < p) := fun y h hy => by omega
          have HE : Hid (sortN (l.take (k + 1)) = O.take i ++ p :: O.drop i) := by
            show _ = _
            rw [HS.out, insN_at HU.out p i (by have := HM.out; omega) HJ.out HA.out]
          obtain ⟨g, cap, W2, W3, hrun, hcp1, hcp2, hcp, ⟨z0, hz0⟩, hfz, hown, hBg, hbW3, hBW3⟩ := put_tms (w0 := w) (W := wr) (B := w.heap.size) (O := zs O) (p : Int) i (by rw [zs_len]; have := HM.out; omega) (by rw [zs_len]; exact HO.out) hwB hbr (by rw [zs_len]; have := HM.out; omega) (by rw [zs_len]; exact HNIL.out)
          rw [zs_len, ← HM.out] at hrun hcp1 hcp
          have HF : Hid (SO w l (k + 1) (.slice (some ⟨g, 0, none⟩) (m + 1) cap) (W3.setCell ⟨g, i, none⟩ (.int .i64 (p : Int)))) := by
            have h9 := hown
            rw [zs_len, ← HM.out, ← zs_cut, ← HE.out] at h9
            have e8 : (sortN (l.take (k + 1))).length = m + 1 := by rw [HE.out]; have := HM.out; simp; omega
            refine HTO.out _ _ ⟨by rw [e8]; exact h9, bset hbW3 hBg, fun h => ?_⟩
            rw [e8] at h; omega
          clear hown hbW3 hBW3 HE HO HJ HTO HA
          have mixed : Try.prog.follows Departure.mixedOrders = true := by kernel_rfl
          have hw1 : IntKind.i64.wrap ((i : Int) + 1) = (i : Int) + 1 := by rw [IntKind.wrap_i64]; omega
          have hb1 : (0 : Int) ≤ (i : Int) + 1 := by omega
          have hle1 : (i : Int) + 1 ≤ (m : Int) + 1 := by omega
          have hle2 : (i : Int) ≤ (m : Int) + 1 := by omega
          have him : i ≤ m := by omega
          have htn : ((i : Int) + 1).toNat = i + 1 := by omega
          have hci : ¬ cap = i := by omega
          have hlt2 : (i : Int) < (m : Int) + 1 := by omega
          go_wp2_with fail
          by_cases hcapi : cap = i + 1
          · subst hcapi
            have hm0 : m - i = 0 := by omega
            have hq := hcp 107 3 0 (by have := HM.out; intro h; omega)
            go_region_law_o (refine Lk.copy_step rfl _ _ 107 107 rfl (by simp [Act.eval, Act.put, hm0]) (by simp [Act.eval, Act.put]) hq ?_)
            go_wp2_with fail
            go_roundw
            case rel => first | exact ⟨k + 1, by omega, by go_num, HF⟩ | ((repeat apply Exists.intro); refine ⟨?_, rfl⟩; exact ⟨k + 1, by omega, by go_num, HF⟩)
            case measure => simp [Go.RowKit.intOf]; omega
          · have hq := hcp 107 3 (i + 1) (fun _ => rfl)
            go_region_law_o (refine Lk.copy_step rfl _ _ 107 107 rfl (by simp [Act.eval, Act.put]) (by simp [Act.eval, Act.put]) hq ?_)
            go_wp2_with fail
            go_roundw
            case rel => first | exact ⟨k + 1, by omega, by go_num, HF⟩ | ((repeat apply Exists.intro); refine ⟨?_, rfl⟩; exact ⟨k + 1, by omega, by go_num, HF⟩)
            case measure => simp [Go.RowKit.intOf]; omega
    · have hkn : decide ((k : Int) < (n : Int)) = false := decide_eq_false (by omega)
      have hte : l.take k = l := by have := HN.out; exact List.take_of_length_le (by omega)
      have HF2 : Hid (HasT wr u3 (zs (sortN l)) ∧ Below w.heap.size w wr) := by
        obtain ⟨a, b, _⟩ : wr.ownsRow w.heap.size 2 1 u3 (sortN (l.take k)).length (csT (zs (sortN (l.take k)))) ∧ Below w.heap.size w wr ∧ NilIf (sortN (l.take k)).length u3 := HI.out
        rw [hte, ← zs_len] at a
        exact ⟨hasRow_own a, b⟩
      clear hte HI
      go_wp2_with fail
      go_ret
      exact ⟨_, rfl, HF2.out.1, HF2.out.2⟩
end Go.Proofs.Ytebjklhffccomaa.Iv
namespace Go.Proofs.Ytebjklhffccomaa.Iv
open Go.RowKit
open Go.Proofs.Ytebjklhffccomaa.Lk (HasRow hasRow_own addr_add)
open Go.Proofs.Ytebjklhffccomaa.Sp (Sp inB inB_iff inB_nil inB_app Row rowB row_ext okS okS_iff okB okB_iff topN plc plc1 mem_plc plc_app plc_top in_const RwI rw_start rw_skip rw_open rw_keep rw_shut rw_end0 rw_tail rw_shift nxt nxt_at nxt_end)
open Go.Proofs.Ytebjklhffccomaa.Ct (Up sortN up_sortN mem_sortN sortN_len)
open Go.Proofs.Ytebjklhffccomaa.Addr (RowAt below2 below_drew below_new bset RowAt.lt RowAt.cell RowAt.frozen RowAt.below RowAt.drew RowAt.new RowAt.alloc cells2)
attribute [-go_sem] Builtin.append_
def how3 (h : Nat) (x y : Bool) : Bool := if h = 2 then (x && !y) else (if h = 1 then (x && y) else (x || y))
/-- the times at which a set may turn -/
def tms (l : List Sp) : List Nat := l.flatMap (fun s => [s.1, s.2 + 1])
theorem tms_app (a b : List Sp) : tms (a ++ b) = tms a ++ tms b := by unfold tms; rw [List.flatMap_append]
theorem tms_snoc (l : List Sp) (k : Nat) (h : k < l.length) : tms (l.take (k + 1)) = tms (l.take k) ++ [l[k].1, l[k].2 + 1] := by
  unfold tms
  rw [List.take_succ_eq_append_getElem h, List.flatMap_append]
  simp
theorem tms_len (l : List Sp) : (tms l).length = 2 * l.length := by
  induction l with
  | nil => rfl
  | cons s l ih =>
    show ([s.1, s.2 + 1] ++ tms l).length = _
    rw [List.length_append, ih]
    show 2 + 2 * l.length = 2 * (l.length + 1)
    omega
theorem mem_tms {l : List Sp} {x : Nat} : x ∈ tms l ↔ ∃ s ∈ l, x = s.1 ∨ x = s.2 + 1 := by
  unfold tms
  rw [List.mem_flatMap]
  constructor
  · rintro ⟨s, hs, h⟩
    simp only [List.mem_cons, List.not_mem_nil, or_false] at h
    exact ⟨s, hs, h⟩
  · rintro ⟨s, hs, h⟩
    refine ⟨s, hs, ?_⟩
    simp only [List.mem_cons, List.not_mem_nil, or_false]
    exact h
theorem plc_tms {l : List Sp} (ht : Tms l) {x : Nat} : x ∈ plc true l ↔ x ∈ tms l := by
  rw [mem_plc, mem_tms]
  constructor
  · rintro ⟨s, hs, h | ⟨_, h⟩⟩
    · exact ⟨s, hs, .inl h⟩
    · exact ⟨s, hs, .inr h⟩
  · rintro ⟨s, hs, h | h⟩
    · exact ⟨s, hs, .inl h⟩
    · refine ⟨s, hs, .inr ⟨?_, h⟩⟩
      have := (ht s hs).2
      rw [top6]; unfold MaxT at this; omega
theorem tms_bd {l : List Sp} (ht : Tms l) {x : Nat} (h : x ∈ tms l) : x ≤ MaxT + 1 := by
  obtain ⟨s, hs, h⟩ := mem_tms.1 h
  have := ht s hs
  rcases h with h | h <;> omega
/-- between two places a set of times does not turn -/
theorem tm_const {l : List Sp} (ht : Tms l) {p x : Nat} (hx : x ≤ topN true) (hp : p ≤ x) (hno : ∀ y ∈ tms l, y ≤ x → y ≤ p) : inB l x = inB l p :=
  in_const (tms_ok ht) hx hp (fun y hy => hno y ((plc_tms ht).1 hy))
/-- ahead of the first place there is nothing -/
theorem tm_low {l : List Sp} {x : Nat} (hno : ∀ y ∈ tms l, ¬ y ≤ x) : inB l x = false := by
  rw [← Bool.not_eq_true, inB_iff]
  rintro ⟨s, hs, h1, _⟩
  exact hno s.1 (mem_tms.2 ⟨s, hs, .inl rfl⟩) h1
section
variable {a b : List Sp} (ta : Tms a) (tb : Tms b) (h : Nat)
def fnH (h : Nat) (a b : List Sp) (x : Nat) : Bool := how3 h (inB a x) (inB b x)
include ta tb
theorem pl_bd {k : Nat} (hk : k < (sortN (tms (a ++ b))).length) : (sortN (tms (a ++ b)))[k] ≤ MaxT + 1 := by
  have hm := (mem_sortN _ _).1 (List.getElem_mem hk)
  obtain ⟨y, hy⟩ : ∃ y, y = (sortN (tms (a ++ b)))[k] := ⟨_, rfl⟩
  rw [← hy] at hm ⊢
  rw [tms_app, List.mem_append] at hm
  rcases hm with hm | hm
  · exact tms_bd ta hm
  · exact tms_bd tb hm
theorem pl_step {k : Nat} (hk : k < (sortN (tms (a ++ b))).length) : (sortN (tms (a ++ b)))[k] < nxt true (sortN (tms (a ++ b))) (k + 1) ∧ ∀ x, (sortN (tms (a ++ b)))[k] ≤ x → x < nxt true (sortN (tms (a ++ b))) (k + 1) → fnH h a b x = fnH h a b (sortN (tms (a ++ b)))[k] := by
  have hu := up_sortN (tms (a ++ b))
  have hbd := fun (j : Nat) (hj : j < (sortN (tms (a ++ b))).length) => pl_bd ta tb hj
  have hmem := fun y => mem_sortN (tms (a ++ b)) y
  generalize sortN (tms (a ++ b)) = P at *
  have hle := hbd k hk
  have htop : MaxT + 1 < topN true := by rw [top6]; unfold MaxT; omega
  have hnx : P[k] < nxt true P (k + 1) ∧ nxt true P (k + 1) ≤ topN true + 1 := by
    by_cases hk1 : k + 1 < P.length
    · rw [nxt_at hk1]
      have := hbd (k + 1) hk1
      exact ⟨List.pairwise_iff_getElem.1 hu k (k + 1) hk hk1 (by omega), by omega⟩
    · have e : k + 1 = P.length := by omega
      rw [e, nxt_end]; omega
  refine ⟨hnx.1, fun x h1 h2 => ?_⟩
  have hno : ∀ y ∈ P, y ≤ x → y ≤ P[k] := fun y hy hyx => by
    obtain ⟨i, hi, e⟩ := List.getElem_of_mem hy
    by_cases hik : i ≤ k
    · by_cases he : i = k
      · subst he; omega
      · have := List.pairwise_iff_getElem.1 hu i k hi hk (by omega)
        omega
    · exfalso
      have hk1 : k + 1 < P.length := by omega
      rw [nxt_at hk1] at h2
      by_cases he : i = k + 1
      · subst he; omega
      · have := List.pairwise_iff_getElem.1 hu (k + 1) i hk1 hi (by omega)
        omega
  unfold fnH
  rw [tm_const ta (by omega) h1 (fun y hy hyx => hno y ((hmem y).2 (by rw [tms_app]; exact List.mem_append_left _ hy)) hyx), tm_const tb (by omega) h1 (fun y hy hyx => hno y ((hmem y).2 (by rw [tms_app]; exact List.mem_append_right _ hy)) hyx)]
omit ta tb in
theorem fn_off (hh : h ≤ 2) {x : Nat} (h1 : inB a x = false) (h2 : inB b x = false) : fnH h a b x = false := by
  unfold fnH how3
  rw [h1, h2]
  split
  · rfl
  · split <;> rfl
omit ta tb in
theorem pl_start (hh : h ≤ 2) : RwI true (fnH h a b) [] false (nxt true (sortN (tms (a ++ b))) 0) := by
  have hu := up_sortN (tms (a ++ b))
  have hmem := fun y => mem_sortN (tms (a ++ b)) y
  generalize sortN (tms (a ++ b)) = P at *
  have hz : ∀ x, x < nxt true P 0 → fnH h a b x = false := fun x hx => by
    have hno : ∀ y ∈ P, ¬ y ≤ x := fun y hy hyx => by
      obtain ⟨i, hi, e⟩ := List.getElem_of_mem hy
      rw [nxt_at (show 0 < P.length by omega)] at hx
      by_cases he : i = 0
      · subst he; omega
      · have := List.pairwise_iff_getElem.1 hu 0 i (by omega) hi (by omega)
        omega
    exact fn_off h hh (tm_low (fun y hy => hno y ((hmem y).2 (by rw [tms_app]; exact List.mem_append_left _ hy)))) (tm_low (fun y hy => hno y ((hmem y).2 (by rw [tms_app]; exact List.mem_append_right _ hy))))
  by_cases h0 : nxt true P 0 = 0
  · rw [h0]; exact rw_start true _
  · exact rw_skip (rw_start true _) (by omega) (fun x _ hx => by rw [hz x hx, hz 0 (by omega)]) (hz 0 (by omega))
theorem pl_end (hh : h ≤ 2) {R : List Sp} {o : Bool} (hI : RwI true (fnH h a b) R o (topN true + 1)) : Row true R ∧ (∀ x, inB R x = fnH h a b x) ∧ Tms R := by
  have htop : MaxT + 1 < topN true := by rw [top6]; unfold MaxT; omega
  have hoff : ∀ x, MaxT < x → fnH h a b x = false := fun x hx => fn_off h hh (by rw [← Bool.not_eq_true]; intro h2; have := in_tms ta h2; omega) (by rw [← Bool.not_eq_true]; intro h2; have := in_tms tb h2; omega)
  cases o
  · obtain ⟨h1, h2⟩ := rw_end0 hI
    have hin : ∀ x, inB R x = fnH h a b x := fun x => by
      rw [Bool.eq_iff_iff, h2]
      constructor
      · exact fun hq => hq.1
      · intro hq
        refine ⟨hq, ?_⟩
        apply Classical.byContradiction
        intro hn
        rw [hoff x (by omega)] at hq
        cases hq
    refine ⟨h1, hin, tms_in h1.1 (fun x hx => ?_)⟩
    apply Classical.byContradiction
    intro hn
    rw [hin, hoff x (by omega)] at hx
    cases hx
  · obtain ⟨A, q, _, hq, h1, _⟩ := hI.2 rfl
    have := h1 (topN true) (by omega) (by omega)
    rw [hoff _ (by omega)] at this
    cases this
end
theorem own_shapeI {w W : World} {u : Value} {R : List Iv} (h : OwnI w W u R) (hR : 0 < R.length) : ∃ gr c, u = .slice (some ⟨gr, 0, none⟩) R.length c ∧ R.length ≤ c ∧ c ≤ 9223372036854775807 ∧ w.heap.size ≤ gr ∧ gr < W.heap.size := by
  rcases h.ou.2 with ⟨_, h0⟩ | ⟨g, cap, cur, rfl, hg, hgb, hnc, hcm, _⟩
  · omega
  · exact ⟨g, cap, rfl, hnc, by unfold maxLen at hcm; exact hcm, hg, (Array.getElem?_eq_some_iff.1 hgb).1⟩
theorem own_putI {w W : World} {gr c : Nat} {A : List Iv} {q z : Int} (y : Int) (h : OwnI w W (.slice (some ⟨gr, 0, none⟩) (A.length + 1) c) (A ++ [(q, z)])) (hg : w.heap.size ≤ gr) : OwnI w (W.setCell ⟨gr, A.length * 2 + 1, none⟩ (.int .i64 y)) (.slice (some ⟨gr, 0, none⟩) (A.length + 1) c) (A ++ [(q, y)]) := by
  refine ⟨?_, bset h.bl hg⟩
  have e2 : (A ++ [(q, z)]).length = A.length + 1 := by simp
  have e3 : (A ++ [(q, y)]).length = A.length + 1 := by simp
  have hou := h.ou
  rw [e2] at hou
  have h5 := (hou.stored (A.length * 2 + 1) (.int .i64 y)).1
  have e : (csI (A ++ [(q, z)])).set (A.length * 2 + 1) (.int .i64 y) = csI (A ++ [(q, y)]) := by
    rw [csI_app, csI_app, List.set_append_right _ _ (by rw [csI_len]; omega), csI_len, csI_one, csI_one, show A.length * 2 + 1 - A.length * 2 = 1 by omega]
    rfl
  rw [e] at h5
  rw [e3]
  exact h5
theorem lit2T (W : World) (x y : Int) : HasT (W.alloc (.cells #[.int .i64 x, .int .i64 y] 2)) (.slice (some ⟨W.heap.size, 0, none⟩) 2 2) [x, y] := by
  refine ⟨rfl, .inr ⟨⟨W.heap.size, 0, none⟩, 2, rfl, Nat.le_refl _, by decide, fun _ => ⟨rfl, by simp⟩, fun j hj => ?_⟩⟩
  rw [addr_add, Nat.zero_add]
  exact (RowAt.new W [.int .i64 x, .int .i64 y] 2).cell j
theorem zs_app (a b : List Nat) : zs (a ++ b) = zs a ++ zs b := List.map_append
theorem ofS_snoc (R : List Sp) (p : Nat) (z : Nat) : (R ++ [(p, z)]).map ofS = R.map ofS ++ [((p : Int), (z : Int))] := by rw [List.map_append]; rfl
set_option maxHeartbeats 16000000 in
set_option maxRecDepth 20000 in
theorem rowt0_any (a b : List Sp) (va vb : Value) (w : World) (ha : HasI w va (a.map ofS)) (hb : HasI w vb (b.map ofS)) (ta : Tms a) (tb : Tms b) (hla : a.length ≤ 1024) (hlb : b.length ≤ 1024) :
    Calls Try.prog 38 #[.int .i64 0, va, vb] w fun e w' => ∃ u R, e = .returned u ∧ HasI w' u (R.map ofS) ∧ Below w.heap.size w w' ∧ Row true R ∧ Tms R ∧ (∀ x, inB R x = fnH 0 a b x) ∧ R.length ≤ 4096 := by
  obtain ⟨oa, ca, rfl, _, _⟩ := HasRow.slice ha
  obtain ⟨ob, cb, rfl, _, _⟩ := HasRow.slice hb
  rw [List.length_map] at ha hb
  rw [List.length_map, List.length_map]
  obtain ⟨Y, hY⟩ : ∃ Y, Y = w.alloc (.cells #[] 36) := ⟨_, rfl⟩
  have hbY : Below w.heap.size w Y := by rw [hY]; exact below_new (Below.refl _ _) _
  have hO0 : OwnI w Y (.slice (some ⟨w.heap.size, 0, none⟩) 0 0) [] := ⟨by rw [hY]; exact World.ownsRow_lit (base := w.heap.size) w #[] 0 (Nat.le_refl _) (by decide) rfl, hbY⟩
  obtain ⟨v1, w1, hrun1, hO1, _⟩ := appI hO0 (ha.keep hbY) (by rw [List.length_map]; simp only [List.length_nil]; omega)
  obtain ⟨v2, w2, hrun2, hO2, _⟩ := appI hO1 (hb.keep hO1.bl) (by rw [List.nil_append, List.length_map, List.length_map]; omega)
  rw [List.nil_append, ← List.map_append] at hO2
  have HAB : Hid (∀ W, Below w2.heap.size w2 W → HasI W (.slice oa a.length ca) (a.map ofS) ∧ HasI W (.slice ob b.length cb) (b.map ofS)) := fun W hq => ⟨ha.keep (below2 hO2.bl hq), hb.keep (below2 hO2.bl hq)⟩
  have HB2 : Hid (Below w.heap.size w w2) := hO2.bl
  have hL := hO2.has
  obtain ⟨oL, cL, rfl, hcL, _⟩ := HasRow.slice hL
  rw [List.length_map] at hL hcL hrun2
  have HL : Hid (∀ W, Below w2.heap.size w2 W → HasI W (.slice oL (a ++ b).length cL) ((a ++ b).map ofS)) := fun W hq => hL.keep hq
  have HT : Hid (Tms (a ++ b)) := fun s hs => by
    rcases List.mem_append.1 hs with hs | hs
    · exact ta s hs
    · exact tb s hs
  have hlen : (a ++ b).length ≤ 2048 := by rw [List.length_append]; omega
  have HST := fun (k : Nat) (hk : k < (sortN (tms (a ++ b))).length) => pl_step ta tb 0 hk
  have HBD := fun (k : Nat) (hk : k < (sortN (tms (a ++ b))).length) => pl_bd ta tb hk
  have HS0 := pl_start (a := a) (b := b) 0 (by omega)
  have HEND := fun (R : List Sp) (o : Bool) => pl_end ta tb 0 (by omega) (R := R) (o := o)
  have HPL := sortN_len (tms (a ++ b))
  rw [tms_len] at HPL
  obtain ⟨f, hf⟩ : ∃ f, f = fnH 0 a b := ⟨_, rfl⟩
  rw [← hf] at HST HS0 HEND ⊢
  have HFV : Hid (∀ p, f p = how3 0 (inB a p) (inB b p)) := fun p => by rw [hf]; rfl
  have HIA : Hid (∀ p : Nat, inI (a.map ofS) (p : Int) = inB a p) := fun p => by rw [inI_to (tms_okI ta) (by omega), map_to_of, Int.toNat_natCast]
  have HIB : Hid (∀ p : Nat, inI (b.map ofS) (p : Int) = inB b p) := fun p => by rw [inI_to (tms_okI tb) (by omega), map_to_of, Int.toNat_natCast]
  obtain ⟨L, hLL⟩ : ∃ L, L = a ++ b := ⟨_, rfl⟩
  rw [← hLL] at HL HT hlen HST HBD HS0 HPL hcL hL hrun2
  replace HST : Hid _ := HST
  replace HBD : Hid _ := HBD
  replace HEND : Hid _ := HEND
  replace HS0 : Hid (RwI true f [] false (nxt true (sortN (tms L)) 0)) := HS0
  obtain ⟨n, hn⟩ : ∃ n, n = L.length := ⟨_, rfl⟩
  have HN : Hid (n = L.length) := hn
  rw [← hn] at HL hlen hcL HPL hrun2
  have hni : (n : Int) ≤ 2048 := by omega
  have H0 : Hid (OwnT w2 w2 (.slice none 0 0) (zs (tms (L.take 0)))) := by rw [List.take_zero]; exact OwnT.nil w2
  rw [hY] at hrun1
  clear ha hb ta tb hf hLL hn hL hO0 hO1 hO2 hbY hY
  generalize a.length = la at *
  generalize b.length = lb at *
  go_enter Try.func38, Try.ntmps38
  go_wp2_with fail
  go_loopw [7, 23] (fun u q wr => ∃ k : Nat, k ≤ n ∧ q = .int .i64 k ∧ Hid (OwnT w2 wr u (zs (tms (L.take k))))) (fun _ q _ => n - (Go.RowKit.intOf q).toNat)
  case atStart => exact ⟨0, by omega, rfl, H0⟩
  case round =>
    obtain ⟨k, hk, rfl, HI⟩ := hrel
    have hI := HI.out
    clear hrun1 hrun2 H0
    by_cases hlt : k < n
    · have hkz : k < L.length := by rw [← HN.out]; exact hlt
      have hh := HL.out _ hI.bl
      obtain ⟨g1, i1, rfl, hg1, a0, a1⟩ := HasI.cell hh k (by rw [List.length_map]; exact hkz)
      have e9 : (L.map ofS)[k]'(by rw [List.length_map]; exact hkz) = ofS L[k] := List.getElem_map _
      rw [e9] at a0 a1
      have HA : Hid (zs (tms (L.take (k + 1))) = zs (tms (L.take k)) ++ [(L[k].1 : Int), (L[k].2 : Int) + 1]) := by
        show _ = _
        rw [tms_snoc L k hkz, zs_app]; rfl
      have hb2 := (HT.out L[k] (List.getElem_mem hkz))
      have htk : (zs (tms (L.take k))).length + 2 ≤ 1000000 := by rw [zs_len, tms_len, List.length_take]; omega
      have hki : (k : Int) < (n : Int) := by omega
      obtain ⟨s, hs⟩ : ∃ s : Sp, s = L[k] := ⟨_, rfl⟩
      rw [← hs] at HA a0 a1 hb2
      obtain ⟨s1, s2⟩ := s
      clear hs e9 hh hg1 HI
      replace a0 : wr.cell? ⟨g1, i1 + k * 2, none⟩ = some (.int .i64 (s1 : Int)) := a0
      replace a1 : wr.cell? ⟨g1, i1 + k * 2 + 1, none⟩ = some (.int .i64 (s2 : Int)) := a1
      simp only at HA hb2
      unfold MaxT at hb2
      have hw1 : IntKind.i64.wrap ((s2 : Int) + 1) = (s2 : Int) + 1 := by rw [IntKind.wrap_i64]; omega
      obtain ⟨X, hX⟩ : ∃ X, X = wr.alloc (.cells #[.int .i64 (s1 : Int), .int .i64 (s2 : Int)] 36) := ⟨_, rfl⟩
      have hbX : Below wr.heap.size wr X := by rw [hX]; exact below_new (Below.refl _ _) _
      have r0 : RowAt X wr.heap.size [.int .i64 (s1 : Int), .int .i64 (s2 : Int)] 36 := by rw [hX]; exact RowAt.new _ _ _
      go_upto_region 5 with fail
      rw [← hX]
      have hO := hI.below hbX
      obtain ⟨gs, hgs⟩ : ∃ g, g = wr.heap.size := ⟨_, rfl⟩
      rw [← hgs] at r0 ⊢
      clear hX hbX a0 a1 hgs hI
      obtain ⟨v3, w3, hrun, hO3, _⟩ := appT (hO.below (below_new (Below.refl _ X) (.cells #[.int .i64 (s1 : Int), .int .i64 ((s2 : Int) + 1)] 2))) (lit2T X (s1 : Int) ((s2 : Int) + 1)) (by simp only [List.length_cons, List.length_nil]; omega)
      have HO : Hid (OwnT w2 w3 v3 (zs (tms (L.take (k + 1))))) := by show OwnT _ _ _ _; rw [HA.out]; exact hO3
      obtain ⟨p0, p1, pf⟩ := cells2 r0
      clear hO3 hO HA r0
      go_wp2_with fail
      go_roundw
      case rel => exact ⟨k + 1, by omega, by go_num, HO⟩
      case measure => simp [Go.RowKit.intOf]; omega
    have hkn : decide ((k : Int) < (n : Int)) = false := decide_eq_false (by omega)
    have hte : L.take k = L := List.take_of_length_le (by have := HN.out; omega)
    rw [hte] at hI
    have cs := rsorted_any (tms L) u7 wr hI.has (by rw [tms_len, ← HN.out]; omega)
    have HBW : Hid (Below w2.heap.size w2 wr) := hI.bl
    obtain ⟨P, hP⟩ : ∃ P, P = sortN (tms L) := ⟨_, rfl⟩
    rw [← hP] at cs HST HBD HS0 HPL
    clear hI HI hte hP HT HL
    go_wp2_with fail
    go_at_call 67; refine cs.mono ?_; rintro e w4 ⟨u4, rfl, hP4, hb4⟩
    clear cs
    have HW4 : Hid (Below w2.heap.size w2 w4) := below2 HBW.out hb4
    obtain ⟨oP, cP, rfl, hcP, _⟩ := HasRow.slice hP4
    rw [zs_len] at hP4 hcP ⊢
    have HRP : Hid (∀ W, Below w4.heap.size w4 W → HasT W (.slice oP P.length cP) (zs P)) := fun W hq => hP4.keep hq
    obtain ⟨np, hnp⟩ : ∃ n, n = P.length := ⟨_, rfl⟩
    have HNP : Hid (np = P.length) := hnp
    rw [← hnp] at HRP hcP HPL ⊢
    have hnpi : (np : Int) ≤ 4096 := by omega
    have H1 : Hid (OwnI w4 w4 (.slice none 0 0) (([] : List Sp).map ofS) ∧ RwI true f [] false (nxt true P 0) ∧ ([] : List Sp).length ≤ 0) := ⟨OwnI.nil w4, HS0.out, by simp⟩
    clear hP4 hb4 hnp HS0 HBW
    obtain ⟨wx, hwx⟩ : ∃ q, q = w4 := ⟨_, rfl⟩
    go_wp2_with fail
    go_loopw [10, 11, 39] (fun u t q wr => ∃ (k : Nat) (R : List Sp) (o : Bool), k ≤ np ∧ q = .int .i64 k ∧ t = .bool o ∧ Hid (OwnI w4 wr u (R.map ofS) ∧ RwI true f R o (nxt true P k) ∧ R.length ≤ k)) (fun _ _ q _ => np - (Go.RowKit.intOf q).toNat)
    case atStart => exact ⟨0, [], false, by omega, rfl, rfl, H1⟩
    case round =>
      obtain ⟨k, R, o, hk, rfl, rfl, HI⟩ := hrel
      clear H1
      obtain ⟨hO, hI, hRk⟩ := HI.out
      have hh := HRP.out _ hO.bl
      by_cases hlt : k < np
      · have hkz : k < P.length := by rw [← HNP.out]; exact hlt
        obtain ⟨g1, i1, rfl, hg1, a0⟩ := HasT.cell hh k (by rw [zs_len]; exact hkz)
        have e9 : (zs P)[k]'(by rw [zs_len]; exact hkz) = (P[k] : Int) := List.getElem_map _
        rw [e9] at a0
        have hki : (k : Int) < (np : Int) := by omega
        rw [nxt_at hkz] at hI
        obtain ⟨s1, hcf⟩ := HST.out k hkz
        have hpb := HBD.out k hkz
        obtain ⟨p, hp⟩ : ∃ p, p = P[k] := ⟨_, rfl⟩
        rw [← hp] at hI s1 hcf hpb a0
        have hpt : p ≤ topN true := by rw [top6]; unfold MaxT at hpb; omega
        have HNO : Hid (o = false → f p = false → RwI true f R false (nxt true P (k + 1))) := fun h1 h2 => by subst h1; exact rw_skip hI s1 hcf h2
        have HOP : Hid (o = false → f p = true → RwI true f (R ++ [(p, 0)]) true (nxt true P (k + 1))) := fun h1 h2 => by subst h1; exact rw_open hI s1 hcf h2
        have HKE : Hid (o = true → f p = true → RwI true f R true (nxt true P (k + 1))) := fun h1 h2 => by subst h1; exact rw_keep hI s1 hcf h2
        have HTL : Hid (o = true → ∃ A2 q, R = A2 ++ [(q, 0)]) := fun h1 => by subst h1; exact rw_tail hI
        have HSH : Hid (o = true → f p = false → ∀ A2 q, R = A2 ++ [(q, 0)] → RwI true f (A2 ++ [(q, p - 1)]) false (nxt true P (k + 1)) ∧ 0 < p) := fun h1 h2 A2 q hR => by
          subst h1 hR
          refine ⟨rw_shut hI s1 hcf h2 hpt, ?_⟩
          obtain ⟨_, _, _, hqp, _⟩ := hI.2 rfl
          omega
        have c1 := fun (W : World) (hq : HasI W (.slice oa la ca) (a.map ofS)) => rin_any (a.map ofS) (p : Int) _ W hq
        have c2 := fun (W : World) (hq : HasI W (.slice ob lb cb) (b.map ofS)) => rin_any (b.map ofS) (p : Int) _ W hq
        rw [HIA.out] at c1
        rw [HIB.out] at c2
        have HFP : Hid (f p = how3 0 (inB a p) (inB b p)) := HFV.out p
        generalize inB a p = IA at c1 HFP
        generalize inB b p = IB at c2 HFP
        unfold MaxT at hpb
        clear e9 hp hI hcf s1 hpt HI hkz hh hg1
        go_wp2_with fail
        go_at_call 41; refine (c1 _ (HAB.out _ (below2 HW4.out hO.bl)).1).mono ?_; rintro e w5 ⟨rfl, hb5⟩
        replace hO := hO.below hb5
        clear c1 a0 hb5
        go_wp2_with fail
        go_at_call 41; refine (c2 _ (HAB.out _ (below2 HW4.out hO.bl)).2).mono ?_; rintro e wq ⟨rfl, hb6⟩
        replace hO := hO.below hb6
        clear c2 hb6
        cases IA
        · cases IB
          · have HF : Hid (f p = false) := HFP.out.trans rfl
            clear HFP
            cases o
            · have HO : Hid (OwnI w4 wq u10 (R.map ofS) ∧ RwI true f R false (nxt true P (k + 1)) ∧ R.length ≤ k + 1) := ⟨hO, HNO.out rfl HF.out, by omega⟩
              clear HNO HOP HKE HSH hO HF HTL
              go_wp2_with fail
              go_roundw
              case rel => exact ⟨k + 1, R, false, by omega, by go_num, rfl, HO⟩
              case measure => simp [Go.RowKit.intOf]; omega
            · obtain ⟨A2, q, hR⟩ := HTL.out rfl
              subst hR
              obtain ⟨HA1, hp0⟩ := HSH.out rfl HF.out A2 q rfl
              have HA : Hid (RwI true f (A2 ++ [(q, p - 1)]) false (nxt true P (k + 1))) := HA1
              have hRk2 : A2.length + 1 ≤ k := by have : (A2 ++ [(q, 0)]).length ≤ k := hRk; simp at this; exact this
              rw [ofS_snoc] at hO
              obtain ⟨gr, c5, rfl, hc5, hc6, hg5, hg6⟩ := own_shapeI hO (by simp)
              have e0 : (A2.map ofS ++ [((q : Int), ((0 : Nat) : Int))]).length = (A2.map ofS).length + 1 := by simp
              rw [e0] at hO hc5 ⊢
              obtain ⟨y5, hY5⟩ : ∃ Y, Y = wq.setCell ⟨gr, (A2.map ofS).length * 2 + 1, none⟩ (.int .i64 ((p : Int) - 1)) := ⟨_, rfl⟩
              have hO2 := own_putI ((p : Int) - 1) hO hg5
              rw [← hY5] at hO2
              have hou := hO.ou
              rw [e0] at hou
              have hcl := hou.cellAt ((A2.map ofS).length * 2 + 1) (by omega)
              have hcl2 : ∃ z, wq.cell? ⟨gr, (A2.map ofS).length * 2 + 1, none⟩ = some z := ⟨_, hcl.trans (List.getElem?_eq_getElem (by rw [csI_len, e0]; omega))⟩
              obtain ⟨z5, hz5⟩ := hcl2
              have qf := hou.frozenAt
              have HO : Hid (OwnI w4 y5 (.slice (some ⟨gr, 0, none⟩) ((A2.map ofS).length + 1) c5) ((A2 ++ [(q, p - 1)]).map ofS) ∧ RwI true f (A2 ++ [(q, p - 1)]) false (nxt true P (k + 1)) ∧ (A2 ++ [(q, p - 1)]).length ≤ k + 1) := ⟨by rw [ofS_snoc, show ((p - 1 : Nat) : Int) = (p : Int) - 1 by omega]; exact hO2, HA.out, by simp; omega⟩
              have hn5 : (A2.map ofS).length + 1 ≤ 4098 := by rw [List.length_map]; omega
              clear hO2 hO HNO HOP HKE HSH HF HTL HA HA1 hcl e0 hRk hou
              obtain ⟨n2, hn2⟩ : ∃ n2, n2 = (A2.map ofS).length := ⟨_, rfl⟩
              rw [← hn2] at HO hc5 hn5 hz5 hY5 ⊢
              clear hn2
              have hpz : IntKind.i64.wrap ((p : Int) - 1) = (p : Int) - 1 := by rw [IntKind.wrap_i64]; omega
              have hp0' : decide ((n2 : Int) < 0) = false := decide_eq_false (by omega)
              have hpi : (n2 : Int) ≤ 4098 := by omega
              have hw5 : IntKind.i64.wrap (n2 : Int) = (n2 : Int) := by rw [IntKind.wrap_i64]; omega
              have hs5 : (n2 : Int) + 1 - 1 = (n2 : Int) := by omega
              have hl5 : (n2 : Int) < (n2 : Int) + 1 := by omega
              go_upto_region 20 with fail
              rw [← hY5]
              clear hY5 hz5 qf
              go_wp2_with fail
              go_roundw
              case rel => exact ⟨k + 1, A2 ++ [(q, p - 1)], false, by omega, by go_num, rfl, HO⟩
              case measure => simp [Go.RowKit.intOf]; omega
          · have HF : Hid (f p = true) := HFP.out.trans rfl
            clear HFP
            cases o
            · obtain ⟨v3, w3, hrun, hO3, _⟩ := appI (hO.below (below_new (Below.refl _ wq) (.cells #[.int .i64 (p : Int), .int .i64 0] 36))) (litI wq ((p : Int), 0) 36) (by rw [List.length_map]; simp only [List.length_cons, List.length_nil]; omega)
              have HO : Hid (OwnI w4 w3 v3 ((R ++ [(p, 0)]).map ofS) ∧ RwI true f (R ++ [(p, 0)]) true (nxt true P (k + 1)) ∧ (R ++ [(p, 0)]).length ≤ k + 1) := ⟨by rw [ofS_snoc]; exact hO3, HOP.out rfl HF.out, by rw [List.length_append]; simp only [List.length_cons, List.length_nil]; omega⟩
              clear hO3 hO HNO HOP HKE HSH HF HTL
              go_wp2_with fail
              go_roundw
              case rel => exact ⟨k + 1, R ++ [(p, 0)], true, by omega, by go_num, rfl, HO⟩
              case measure => simp [Go.RowKit.intOf]; omega
            · have HO : Hid (OwnI w4 wq u10 (R.map ofS) ∧ RwI true f R true (nxt true P (k + 1)) ∧ R.length ≤ k + 1) := ⟨hO, HKE.out rfl HF.out, by omega⟩
              clear HNO HOP HKE HSH hO HF HTL
              go_wp2_with fail
              go_roundw
              case rel => exact ⟨k + 1, R, true, by omega, by go_num, rfl, HO⟩
              case measure => simp [Go.RowKit.intOf]; omega
        · cases IB
          · have HF : Hid (f p = true) := HFP.out.trans rfl
            clear HFP
            cases o
            · obtain ⟨v3, w3, hrun, hO3, _⟩ := appI (hO.below (below_new (Below.refl _ wq) (.cells #[.int .i64 (p : Int), .int .i64 0] 36))) (litI wq ((p : Int), 0) 36) (by rw [List.length_map]; simp only [List.length_cons, List.length_nil]; omega)
              have HO : Hid (OwnI w4 w3 v3 ((R ++ [(p, 0)]).map ofS) ∧ RwI true f (R ++ [(p, 0)]) true (nxt true P (k + 1)) ∧ (R ++ [(p, 0)]).length ≤ k + 1) := ⟨by rw [ofS_snoc]; exact hO3, HOP.out rfl HF.out, by rw [List.length_append]; simp only [List.length_cons, List.length_nil]; omega⟩
              clear hO3 hO HNO HOP HKE HSH HF HTL
              go_wp2_with fail
              go_roundw
              case rel => exact ⟨k + 1, R ++ [(p, 0)], true, by omega, by go_num, rfl, HO⟩
              case measure => simp [Go.RowKit.intOf]; omega
            · have HO : Hid (OwnI w4 wq u10 (R.map ofS) ∧ RwI true f R true (nxt true P (k + 1)) ∧ R.length ≤ k + 1) := ⟨hO, HKE.out rfl HF.out, by omega⟩
              clear HNO HOP HKE HSH hO HF HTL
              go_wp2_with fail
              go_roundw
              case rel => exact ⟨k + 1, R, true, by omega, by go_num, rfl, HO⟩
              case measure => simp [Go.RowKit.intOf]; omega
          · have HF : Hid (f p = true) := HFP.out.trans rfl
            clear HFP
            cases o
            · obtain ⟨v3, w3, hrun, hO3, _⟩ := appI (hO.below (below_new (Below.refl _ wq) (.cells #[.int .i64 (p : Int), .int .i64 0] 36))) (litI wq ((p : Int), 0) 36) (by rw [List.length_map]; simp only [List.length_cons, List.length_nil]; omega)
              have HO : Hid (OwnI w4 w3 v3 ((R ++ [(p, 0)]).map ofS) ∧ RwI true f (R ++ [(p, 0)]) true (nxt true P (k + 1)) ∧ (R ++ [(p, 0)]).length ≤ k + 1) := ⟨by rw [ofS_snoc]; exact hO3, HOP.out rfl HF.out, by rw [List.length_append]; simp only [List.length_cons, List.length_nil]; omega⟩
              clear hO3 hO HNO HOP HKE HSH HF HTL
              go_wp2_with fail
              go_roundw
              case rel => exact ⟨k + 1, R ++ [(p, 0)], true, by omega, by go_num, rfl, HO⟩
              case measure => simp [Go.RowKit.intOf]; omega
            · have HO : Hid (OwnI w4 wq u10 (R.map ofS) ∧ RwI true f R true (nxt true P (k + 1)) ∧ R.length ≤ k + 1) := ⟨hO, HKE.out rfl HF.out, by omega⟩
              clear HNO HOP HKE HSH hO HF HTL
              go_wp2_with fail
              go_roundw
              case rel => exact ⟨k + 1, R, true, by omega, by go_num, rfl, HO⟩
              case measure => simp [Go.RowKit.intOf]; omega
      · have hkn2 : decide ((k : Int) < (np : Int)) = false := decide_eq_false (by omega)
        have hke : k = P.length := by rw [← HNP.out]; omega
        rw [hke, nxt_end] at hI
        obtain ⟨h1, h2, h3⟩ := HEND.out R o hI
        have HF : Hid (HasI wr u10 (R.map ofS) ∧ Below w.heap.size w wr ∧ Row true R ∧ Tms R ∧ (∀ x, inB R x = f x) ∧ R.length ≤ 4096) := ⟨hO.has, below2 (below2 HB2.out HW4.out) hO.bl, h1, h3, h2, by omega⟩
        clear hI h1 h2 h3 hO HI hh hke
        go_wp2_with fail
        go_ret
        exact ⟨_, R, rfl, HF.out⟩
set_option maxHeartbeats 16000000 in
set_option maxRecDepth 20000 in
theorem rowt1_any (a b : List Sp) (va vb : Value) (w : World) (ha : HasI w va (a.map ofS)) (hb : HasI w vb (b.map ofS)) (ta : Tms a) (tb : Tms b) (hla : a.length ≤ 1024) (hlb : b.length ≤ 1024) :
    Calls Try.prog 38 #[.int .i64 1, va, vb] w fun e w' => ∃ u R, e = .returned u ∧ HasI w' u (R.map ofS) ∧ Below w.heap.size w w' ∧ Row true R ∧ Tms R ∧ (∀ x, inB R x = fnH 1 a b x) ∧ R.length ≤ 4096 := by
  obtain ⟨oa, ca, rfl, _, _⟩ := HasRow.slice ha
  obtain ⟨ob, cb, rfl, _, _⟩ := HasRow.slice hb
  rw [List.length_map] at ha hb
  rw [List.length_map, List.length_map]
  obtain ⟨Y, hY⟩ : ∃ Y, Y = w.alloc (.cells #[] 36) := ⟨_, rfl⟩
  have hbY : Below w.heap.size w Y := by rw [hY]; exact below_new (Below.refl _ _) _
  have hO0 : OwnI w Y (.slice (some ⟨w.heap.size, 0, none⟩) 0 0) [] := ⟨by rw [hY]; exact World.ownsRow_lit (base := w.heap.size) w #[] 0 (Nat.le_refl _) (by decide) rfl, hbY⟩
  obtain ⟨v1, w1, hrun1, hO1, _⟩ := appI hO0 (ha.keep hbY) (by rw [List.length_map]; simp only [List.length_nil]; omega)
  obtain ⟨v2, w2, hrun2, hO2, _⟩ := appI hO1 (hb.keep hO1.bl) (by rw [List.nil_append, List.length_map, List.length_map]; omega)
  rw [List.nil_append, ← List.map_append] at hO2
  have HAB : Hid (∀ W, Below w2.heap.size w2 W → HasI W (.slice oa a.length ca) (a.map ofS) ∧ HasI W (.slice ob b.length cb) (b.map ofS)) := fun W hq => ⟨ha.keep (below2 hO2.bl hq), hb.keep (below2 hO2.bl hq)⟩
  have HB2 : Hid (Below w.heap.size w w2) := hO2.bl
  have hL := hO2.has
  obtain ⟨oL, cL, rfl, hcL, _⟩ := HasRow.slice hL
  rw [List.length_map] at hL hcL hrun2
  have HL : Hid (∀ W, Below w2.heap.size w2 W → HasI W (.slice oL (a ++ b).length cL) ((a ++ b).map ofS)) := fun W hq => hL.keep hq
  have HT : Hid (Tms (a ++ b)) := fun s hs => by
    rcases List.mem_append.1 hs with hs | hs
    · exact ta s hs
    · exact tb s hs
  have hlen : (a ++ b).length ≤ 2048 := by rw [List.length_append]; omega
  have HST := fun (k : Nat) (hk : k < (sortN (tms (a ++ b))).length) => pl_step ta tb 1 hk
  have HBD := fun (k : Nat) (hk : k < (sortN (tms (a ++ b))).length) => pl_bd ta tb hk
  have HS0 := pl_start (a := a) (b := b) 1 (by omega)
  have HEND := fun (R : List Sp) (o : Bool) => pl_end ta tb 1 (by omega) (R := R) (o := o)
  have HPL := sortN_len (tms (a ++ b))
  rw [tms_len] at HPL
  obtain ⟨f, hf⟩ : ∃ f, f = fnH 1 a b := ⟨_, rfl⟩
  rw [← hf] at HST HS0 HEND ⊢
  have HFV : Hid (∀ p, f p = how3 1 (inB a p) (inB b p)) := fun p => by rw [hf]; rfl
  have HIA : Hid (∀ p : Nat, inI (a.map ofS) (p : Int) = inB a p) := fun p => by rw [inI_to (tms_okI ta) (by omega), map_to_of, Int.toNat_natCast]
  have HIB : Hid (∀ p : Nat, inI (b.map ofS) (p : Int) = inB b p) := fun p => by rw [inI_to (tms_okI tb) (by omega), map_to_of, Int.toNat_natCast]
  obtain ⟨L, hLL⟩ : ∃ L, L = a ++ b := ⟨_, rfl⟩
  rw [← hLL] at HL HT hlen HST HBD HS0 HPL hcL hL hrun2
  replace HST : Hid _ := HST
  replace HBD : Hid _ := HBD
  replace HEND : Hid _ := HEND
  replace HS0 : Hid (RwI true f [] false (nxt true (sortN (tms L)) 0)) := HS0
  obtain ⟨n, hn⟩ : ∃ n, n = L.length := ⟨_, rfl⟩
  have HN : Hid (n = L.length) := hn
  rw [← hn] at HL hlen hcL HPL hrun2
  have hni : (n : Int) ≤ 2048 := by omega
  have H0 : Hid (OwnT w2 w2 (.slice none 0 0) (zs (tms (L.take 0)))) := by rw [List.take_zero]; exact OwnT.nil w2
  rw [hY] at hrun1
  clear ha hb ta tb hf hLL hn hL hO0 hO1 hO2 hbY hY
  generalize a.length = la at *
  generalize b.length = lb at *
  go_enter Try.func38, Try.ntmps38
  go_wp2_with fail
  go_loopw [7, 23] (fun u q wr => ∃ k : Nat, k ≤ n ∧ q = .int .i64 k ∧ Hid (OwnT w2 wr u (zs (tms (L.take k))))) (fun _ q _ => n - (Go.RowKit.intOf q).toNat)
  case atStart => exact ⟨0, by omega, rfl, H0⟩
  case round =>
    obtain ⟨k, hk, rfl, HI⟩ := hrel
    have hI := HI.out
    clear hrun1 hrun2 H0
    by_cases hlt : k < n
    · have hkz : k < L.length := by rw [← HN.out]; exact hlt
      have hh := HL.out _ hI.bl
      obtain ⟨g1, i1, rfl, hg1, a0, a1⟩ := HasI.cell hh k (by rw [List.length_map]; exact hkz)
      have e9 : (L.map ofS)[k]'(by rw [List.length_map]; exact hkz) = ofS L[k] := List.getElem_map _
      rw [e9] at a0 a1
      have HA : Hid (zs (tms (L.take (k + 1))) = zs (tms (L.take k)) ++ [(L[k].1 : Int), (L[k].2 : Int) + 1]) := by
        show _ = _
        rw [tms_snoc L k hkz, zs_app]; rfl
      have hb2 := (HT.out L[k] (List.getElem_mem hkz))
      have htk : (zs (tms (L.take k))).length + 2 ≤ 1000000 := by rw [zs_len, tms_len, List.length_take]; omega
      have hki : (k : Int) < (n : Int) := by omega
      obtain ⟨s, hs⟩ : ∃ s : Sp, s = L[k] := ⟨_, rfl⟩
      rw [← hs] at HA a0 a1 hb2
      obtain ⟨s1, s2⟩ := s
      clear hs e9 hh hg1 HI
      replace a0 : wr.cell? ⟨g1, i1 + k * 2, none⟩ = some (.int .i64 (s1 : Int)) := a0
      replace a1 : wr.cell? ⟨g1, i1 + k * 2 + 1, none⟩ = some (.int .i64 (s2 : Int)) := a1
      simp only at HA hb2
      unfold MaxT at hb2
      have hw1 : IntKind.i64.wrap ((s2 : Int) + 1) = (s2 : Int) + 1 := by rw [IntKind.wrap_i64]; omega
      obtain ⟨X, hX⟩ : ∃ X, X = wr.alloc (.cells #[.int .i64 (s1 : Int), .int .i64 (s2 : Int)] 36) := ⟨_, rfl⟩
      have hbX : Below wr.heap.size wr X := by rw [hX]; exact below_new (Below.refl _ _) _
      have r0 : RowAt X wr.heap.size [.int .i64 (s1 : Int), .int .i64 (s2 : Int)] 36 := by rw [hX]; exact RowAt.new _ _ _
      go_upto_region 5 with fail
      rw [← hX]
      have hO := hI.below hbX
      obtain ⟨gs, hgs⟩ : ∃ g, g = wr.heap.size := ⟨_, rfl⟩
      rw [← hgs] at r0 ⊢
      clear hX hbX a0 a1 hgs hI
      obtain ⟨v3, w3, hrun, hO3, _⟩ := appT (hO.below (below_new (Below.refl _ X) (.cells #[.int .i64 (s1 : Int), .int .i64 ((s2 : Int) + 1)] 2))) (lit2T X (s1 : Int) ((s2 : Int) + 1)) (by simp only [List.length_cons, List.length_nil]; omega)
      have HO : Hid (OwnT w2 w3 v3 (zs (tms (L.take (k + 1))))) := by show OwnT _ _ _ _; rw [HA.out]; exact hO3
      obtain ⟨p0, p1, pf⟩ := cells2 r0
      clear hO3 hO HA r0
      go_wp2_with fail
      go_roundw
      case rel => exact ⟨k + 1, by omega, by go_num, HO⟩
      case measure => simp [Go.RowKit.intOf]; omega
    have hkn : decide ((k : Int) < (n : Int)) = false := decide_eq_false (by omega)
    have hte : L.take k = L := List.take_of_length_le (by have := HN.out; omega)
    rw [hte] at hI
    have cs := rsorted_any (tms L) u7 wr hI.has (by rw [tms_len, ← HN.out]; omega)
    have HBW : Hid (Below w2.heap.size w2 wr) := hI.bl
    obtain ⟨P, hP⟩ : ∃ P, P = sortN (tms L) := ⟨_, rfl⟩
    rw [← hP] at cs HST HBD HS0 HPL
    clear hI HI hte hP HT HL
    go_wp2_with fail
    go_at_call 67; refine cs.mono ?_; rintro e w4 ⟨u4, rfl, hP4, hb4⟩
    clear cs
    have HW4 : Hid (Below w2.heap.size w2 w4) := below2 HBW.out hb4
    obtain ⟨oP, cP, rfl, hcP, _⟩ := HasRow.slice hP4
    rw [zs_len] at hP4 hcP ⊢
    have HRP : Hid (∀ W, Below w4.heap.size w4 W → HasT W (.slice oP P.length cP) (zs P)) := fun W hq => hP4.keep hq
    obtain ⟨np, hnp⟩ : ∃ n, n = P.length := ⟨_, rfl⟩
    have HNP : Hid (np = P.length) := hnp
    rw [← hnp] at HRP hcP HPL ⊢
    have hnpi : (np : Int) ≤ 4096 := by omega
    have H1 : Hid (OwnI w4 w4 (.slice none 0 0) (([] : List Sp).map ofS) ∧ RwI true f [] false (nxt true P 0) ∧ ([] : List Sp).length ≤ 0) := ⟨OwnI.nil w4, HS0.out, by simp⟩
    clear hP4 hb4 hnp HS0 HBW
    obtain ⟨wx, hwx⟩ : ∃ q, q = w4 := ⟨_, rfl⟩
    go_wp2_with fail
    go_loopw [10, 11, 39] (fun u t q wr => ∃ (k : Nat) (R : List Sp) (o : Bool), k ≤ np ∧ q = .int .i64 k ∧ t = .bool o ∧ Hid (OwnI w4 wr u (R.map ofS) ∧ RwI true f R o (nxt true P k) ∧ R.length ≤ k)) (fun _ _ q _ => np - (Go.RowKit.intOf q).toNat)
    case atStart => exact ⟨0, [], false, by omega, rfl, rfl, H1⟩
    case round =>
      obtain ⟨k, R, o, hk, rfl, rfl, HI⟩ := hrel
      clear H1
      obtain ⟨hO, hI, hRk⟩ := HI.out
      have hh := HRP.out _ hO.bl
      by_cases hlt : k < np
      · have hkz : k < P.length := by rw [← HNP.out]; exact hlt
        obtain ⟨g1, i1, rfl, hg1, a0⟩ := HasT.cell hh k (by rw [zs_len]; exact hkz)
        have e9 : (zs P)[k]'(by rw [zs_len]; exact hkz) = (P[k] : Int) := List.getElem_map _
        rw [e9] at a0
        have hki : (k : Int) < (np : Int) := by omega
        rw [nxt_at hkz] at hI
        obtain ⟨s1, hcf⟩ := HST.out k hkz
        have hpb := HBD.out k hkz
        obtain ⟨p, hp⟩ : ∃ p, p = P[k] := ⟨_, rfl⟩
        rw [← hp] at hI s1 hcf hpb a0
        have hpt : p ≤ topN true := by rw [top6]; unfold MaxT at hpb; omega
        have HNO : Hid (o = false → f p = false → RwI true f R false (nxt true P (k + 1))) := fun h1 h2 => by subst h1; exact rw_skip hI s1 hcf h2
        have HOP : Hid (o = false → f p = true → RwI true f (R ++ [(p, 0)]) true (nxt true P (k + 1))) := fun h1 h2 => by subst h1; exact rw_open hI s1 hcf h2
        have HKE : Hid (o = true → f p = true → RwI true f R true (nxt true P (k + 1))) := fun h1 h2 => by subst h1; exact rw_keep hI s1 hcf h2
        have HTL : Hid (o = true → ∃ A2 q, R = A2 ++ [(q, 0)]) := fun h1 => by subst h1; exact rw_tail hI
        have HSH : Hid (o = true → f p = false → ∀ A2 q, R = A2 ++ [(q, 0)] → RwI true f (A2 ++ [(q, p - 1)]) false (nxt true P (k + 1)) ∧ 0 < p) := fun h1 h2 A2 q hR => by
          subst h1 hR
          refine ⟨rw_shut hI s1 hcf h2 hpt, ?_⟩
          obtain ⟨_, _, _, hqp, _⟩ := hI.2 rfl
          omega
        have c1 := fun (W : World) (hq : HasI W (.slice oa la ca) (a.map ofS)) => rin_any (a.map ofS) (p : Int) _ W hq
        have c2 := fun (W : World) (hq : HasI W (.slice ob lb cb) (b.map ofS)) => rin_any (b.map ofS) (p : Int) _ W hq
        rw [HIA.out] at c1
        rw [HIB.out] at c2
        have HFP : Hid (f p = how3 1 (inB a p) (inB b p)) := HFV.out p
        generalize inB a p = IA at c1 HFP
        generalize inB b p = IB at c2 HFP
        unfold MaxT at hpb
        clear e9 hp hI hcf s1 hpt HI hkz hh hg1
        go_wp2_with fail
        go_at_call 41; refine (c1 _ (HAB.out _ (below2 HW4.out hO.bl)).1).mono ?_; rintro e w5 ⟨rfl, hb5⟩
        replace hO := hO.below hb5
        clear c1 a0 hb5
        go_wp2_with fail
        go_at_call 41; refine (c2 _ (HAB.out _ (below2 HW4.out hO.bl)).2).mono ?_; rintro e wq ⟨rfl, hb6⟩
        replace hO := hO.below hb6
        clear c2 hb6
        cases IA
        · cases IB
          · have HF : Hid (f p = false) := HFP.out.trans rfl
            clear HFP
            cases o
            · have HO : Hid (OwnI w4 wq u10 (R.map ofS) ∧ RwI true f R false (nxt true P (k + 1)) ∧ R.length ≤ k + 1) := ⟨hO, HNO.out rfl HF.out, by omega⟩
              clear HNO HOP HKE HSH hO HF HTL
              go_wp2_with fail
              go_roundw
              case rel => exact ⟨k + 1, R, false, by omega, by go_num, rfl, HO⟩
              case measure => simp [Go.RowKit.intOf]; omega
            · obtain ⟨A2, q, hR⟩ := HTL.out rfl
              subst hR
              obtain ⟨HA1, hp0⟩ := HSH.out rfl HF.out A2 q rfl
              have HA : Hid (RwI true f (A2 ++ [(q, p - 1)]) false (nxt true P (k + 1))) := HA1
              have hRk2 : A2.length + 1 ≤ k := by have : (A2 ++ [(q, 0)]).length ≤ k := hRk; simp at this; exact this
              rw [ofS_snoc] at hO
              obtain ⟨gr, c5, rfl, hc5, hc6, hg5, hg6⟩ := own_shapeI hO (by simp)
              have e0 : (A2.map ofS ++ [((q : Int), ((0 : Nat) : Int))]).length = (A2.map ofS).length + 1 := by simp
              rw [e0] at hO hc5 ⊢
              obtain ⟨y5, hY5⟩ : ∃ Y, Y = wq.setCell ⟨gr, (A2.map ofS).length * 2 + 1, none⟩ (.int .i64 ((p : Int) - 1)) := ⟨_, rfl⟩
              have hO2 := own_putI ((p : Int) - 1) hO hg5
              rw [← hY5] at hO2
              have hou := hO.ou
              rw [e0] at hou
              have hcl := hou.cellAt ((A2.map ofS).length * 2 + 1) (by omega)
              have hcl2 : ∃ z, wq.cell? ⟨gr, (A2.map ofS).length * 2 + 1, none⟩ = some z := ⟨_, hcl.trans (List.getElem?_eq_getElem (by rw [csI_len, e0]; omega))⟩
              obtain ⟨z5, hz5⟩ := hcl2
              have qf := hou.frozenAt
              have HO : Hid (OwnI w4 y5 (.slice (some ⟨gr, 0, none⟩) ((A2.map ofS).length + 1) c5) ((A2 ++ [(q, p - 1)]).map ofS) ∧ RwI true f (A2 ++ [(q, p - 1)]) false (nxt true P (k + 1)) ∧ (A2 ++ [(q, p - 1)]).length ≤ k + 1) := ⟨by rw [ofS_snoc, show ((p - 1 : Nat) : Int) = (p : Int) - 1 by omega]; exact hO2, HA.out, by simp; omega⟩
              have hn5 : (A2.map ofS).length + 1 ≤ 4098 := by rw [List.length_map]; omega
              clear hO2 hO HNO HOP HKE HSH HF HTL HA HA1 hcl e0 hRk hou
              obtain ⟨n2, hn2⟩ : ∃ n2, n2 = (A2.map ofS).length := ⟨_, rfl⟩
              rw [← hn2] at HO hc5 hn5 hz5 hY5 ⊢
              clear hn2
              have hpz : IntKind.i64.wrap ((p : Int) - 1) = (p : Int) - 1 := by rw [IntKind.wrap_i64]; omega
              have hp0' : decide ((n2 : Int) < 0) = false := decide_eq_false (by omega)
              have hpi : (n2 : Int) ≤ 4098 := by omega
              have hw5 : IntKind.i64.wrap (n2 : Int) = (n2 : Int) := by rw [IntKind.wrap_i64]; omega
              have hs5 : (n2 : Int) + 1 - 1 = (n2 : Int) := by omega
              have hl5 : (n2 : Int) < (n2 : Int) + 1 := by omega
              go_upto_region 20 with fail
              rw [← hY5]
              clear hY5 hz5 qf
              go_wp2_with fail
              go_roundw
              case rel => exact ⟨k + 1, A2 ++ [(q, p - 1)], false, by omega, by go_num, rfl, HO⟩
              case measure => simp [Go.RowKit.intOf]; omega
          · have HF : Hid (f p = false) := HFP.out.trans rfl
            clear HFP
            cases o
            · have HO : Hid (OwnI w4 wq u10 (R.map ofS) ∧ RwI true f R false (nxt true P (k + 1)) ∧ R.length ≤ k + 1) := ⟨hO, HNO.out rfl HF.out, by omega⟩
              clear HNO HOP HKE HSH hO HF HTL
              go_wp2_with fail
              go_roundw
              case rel => exact ⟨k + 1, R, false, by omega, by go_num, rfl, HO⟩
              case measure => simp [Go.RowKit.intOf]; omega
            · obtain ⟨A2, q, hR⟩ := HTL.out rfl
              subst hR
              obtain ⟨HA1, hp0⟩ := HSH.out rfl HF.out A2 q rfl
              have HA : Hid (RwI true f (A2 ++ [(q, p - 1)]) false (nxt true P (k + 1))) := HA1
              have hRk2 : A2.length + 1 ≤ k := by have : (A2 ++ [(q, 0)]).length ≤ k := hRk; simp at this; exact this
              rw [ofS_snoc] at hO
              obtain ⟨gr, c5, rfl, hc5, hc6, hg5, hg6⟩ := own_shapeI hO (by simp)
              have e0 : (A2.map ofS ++ [((q : Int), ((0 : Nat) : Int))]).length = (A2.map ofS).length + 1 := by simp
              rw [e0] at hO hc5 ⊢
              obtain ⟨y5, hY5⟩ : ∃ Y, Y = wq.setCell ⟨gr, (A2.map ofS).length * 2 + 1, none⟩ (.int .i64 ((p : Int) - 1)) := ⟨_, rfl⟩
              have hO2 := own_putI ((p : Int) - 1) hO hg5
              rw [← hY5] at hO2
              have hou := hO.ou
              rw [e0] at hou
              have hcl := hou.cellAt ((A2.map ofS).length * 2 + 1) (by omega)
              have hcl2 : ∃ z, wq.cell? ⟨gr, (A2.map ofS).length * 2 + 1, none⟩ = some z := ⟨_, hcl.trans (List.getElem?_eq_getElem (by rw [csI_len, e0]; omega))⟩
              obtain ⟨z5, hz5⟩ := hcl2
              have qf := hou.frozenAt
              have HO : Hid (OwnI w4 y5 (.slice (some ⟨gr, 0, none⟩) ((A2.map ofS).length + 1) c5) ((A2 ++ [(q, p - 1)]).map ofS) ∧ RwI true f (A2 ++ [(q, p - 1)]) false (nxt true P (k + 1)) ∧ (A2 ++ [(q, p - 1)]).length ≤ k + 1) := ⟨by rw [ofS_snoc, show ((p - 1 : Nat) : Int) = (p : Int) - 1 by omega]; exact hO2, HA.out, by simp; omega⟩
              have hn5 : (A2.map ofS).length + 1 ≤ 4098 := by rw [List.length_map]; omega
              clear hO2 hO HNO HOP HKE HSH HF HTL HA HA1 hcl e0 hRk hou
              obtain ⟨n2, hn2⟩ : ∃ n2, n2 = (A2.map ofS).length := ⟨_, rfl⟩
              rw [← hn2] at HO hc5 hn5 hz5 hY5 ⊢
              clear hn2
              have hpz : IntKind.i64.wrap ((p : Int) - 1) = (p : Int) - 1 := by rw [IntKind.wrap_i64]; omega
              have hp0' : decide ((n2 : Int) < 0) = false := decide_eq_false (by omega)
              have hpi : (n2 : Int) ≤ 4098 := by omega
              have hw5 : IntKind.i64.wrap (n2 : Int) = (n2 : Int) := by rw [IntKind.wrap_i64]; omega
              have hs5 : (n2 : Int) + 1 - 1 = (n2 : Int) := by omega
              have hl5 : (n2 : Int) < (n2 : Int) + 1 := by omega
              go_upto_region 20 with fail
              rw [← hY5]
              clear hY5 hz5 qf
              go_wp2_with fail
              go_roundw
              case rel => exact ⟨k + 1, A2 ++ [(q, p - 1)], false, by omega, by go_num, rfl, HO⟩
              case measure => simp [Go.RowKit.intOf]; omega
        · cases IB
          · have HF : Hid (f p = false) := HFP.out.trans rfl
            clear HFP
            cases o
            · have HO : Hid (OwnI w4 wq u10 (R.map ofS) ∧ RwI true f R false (nxt true P (k + 1)) ∧ R.length ≤ k + 1) := ⟨hO, HNO.out rfl HF.out, by omega⟩
              clear HNO HOP HKE HSH hO HF HTL
              go_wp2_with fail
              go_roundw
              case rel => exact ⟨k + 1, R, false, by omega, by go_num, rfl, HO⟩
              case measure => simp [Go.RowKit.intOf]; omega
            · obtain ⟨A2, q, hR⟩ := HTL.out rfl
              subst hR
              obtain ⟨HA1, hp0⟩ := HSH.out rfl HF.out A2 q rfl
              have HA : Hid (RwI true f (A2 ++ [(q, p - 1)]) false (nxt true P (k + 1))) := HA1
              have hRk2 : A2.length + 1 ≤ k := by have : (A2 ++ [(q, 0)]).length ≤ k := hRk; simp at this; exact this
              rw [ofS_snoc] at hO
              obtain ⟨gr, c5, rfl, hc5, hc6, hg5, hg6⟩ := own_shapeI hO (by simp)
              have e0 : (A2.map ofS ++ [((q : Int), ((0 : Nat) : Int))]).length = (A2.map ofS).length + 1 := by simp
              rw [e0] at hO hc5 ⊢
              obtain ⟨y5, hY5⟩ : ∃ Y, Y = wq.setCell ⟨gr, (A2.map ofS).length * 2 + 1, none⟩ (.int .i64 ((p : Int) - 1)) := ⟨_, rfl⟩
              have hO2 := own_putI ((p : Int) - 1) hO hg5
              rw [← hY5] at hO2
              have hou := hO.ou
              rw [e0] at hou
              have hcl := hou.cellAt ((A2.map ofS).length * 2 + 1) (by omega)
              have hcl2 : ∃ z, wq.cell? ⟨gr, (A2.map ofS).length * 2 + 1, none⟩ = some z := ⟨_, hcl.trans (List.getElem?_eq_getElem (by rw [csI_len, e0]; omega))⟩
              obtain ⟨z5, hz5⟩ := hcl2
              have qf := hou.frozenAt
              have HO : Hid (OwnI w4 y5 (.slice (some ⟨gr, 0, none⟩) ((A2.map ofS).length + 1) c5) ((A2 ++ [(q, p - 1)]).map ofS) ∧ RwI true f (A2 ++ [(q, p - 1)]) false (nxt true P (k + 1)) ∧ (A2 ++ [(q, p - 1)]).length ≤ k + 1) := ⟨by rw [ofS_snoc, show ((p - 1 : Nat) : Int) = (p : Int) - 1 by omega]; exact hO2, HA.out, by simp; omega⟩
              have hn5 : (A2.map ofS).length + 1 ≤ 4098 := by rw [List.length_map]; omega
              clear hO2 hO HNO HOP HKE HSH HF HTL HA HA1 hcl e0 hRk hou
              obtain ⟨n2, hn2⟩ : ∃ n2, n2 = (A2.map ofS).length := ⟨_, rfl⟩
              rw [← hn2] at HO hc5 hn5 hz5 hY5 ⊢
              clear hn2
              have hpz : IntKind.i64.wrap ((p : Int) - 1) = (p : Int) - 1 := by rw [IntKind.wrap_i64]; omega
              have hp0' : decide ((n2 : Int) < 0) = false := decide_eq_false (by omega)
              have hpi : (n2 : Int) ≤ 4098 := by omega
              have hw5 : IntKind.i64.wrap (n2 : Int) = (n2 : Int) := by rw [IntKind.wrap_i64]; omega
              have hs5 : (n2 : Int) + 1 - 1 = (n2 : Int) := by omega
              have hl5 : (n2 : Int) < (n2 : Int) + 1 := by omega
              go_upto_region 20 with fail
              rw [← hY5]
              clear hY5 hz5 qf
              go_wp2_with fail
              go_roundw
              case rel => exact ⟨k + 1, A2 ++ [(q, p - 1)], false, by omega, by go_num, rfl, HO⟩
              case measure => simp [Go.RowKit.intOf]; omega
          · have HF : Hid (f p = true) := HFP.out.trans rfl
            clear HFP
            cases o
            · obtain ⟨v3, w3, hrun, hO3, _⟩ := appI (hO.below (below_new (Below.refl _ wq) (.cells #[.int .i64 (p : Int), .int .i64 0] 36))) (litI wq ((p : Int), 0) 36) (by rw [List.length_map]; simp only [List.length_cons, List.length_nil]; omega)
              have HO : Hid (OwnI w4 w3 v3 ((R ++ [(p, 0)]).map ofS) ∧ RwI true f (R ++ [(p, 0)]) true (nxt true P (k + 1)) ∧ (R ++ [(p, 0)]).length ≤ k + 1) := ⟨by rw [ofS_snoc]; exact hO3, HOP.out rfl HF.out, by rw [List.length_append]; simp only [List.length_cons, List.length_nil]; omega⟩
              clear hO3 hO HNO HOP HKE HSH HF HTL
              go_wp2_with fail
              go_roundw
              case rel => exact ⟨k + 1, R ++ [(p, 0)], true, by omega, by go_num, rfl, HO⟩
              case measure => simp [Go.RowKit.intOf]; omega
            · have HO : Hid (OwnI w4 wq u10 (R.map ofS) ∧ RwI true f R true (nxt true P (k + 1)) ∧ R.length ≤ k + 1) := ⟨hO, HKE.out rfl HF.out, by omega⟩
              clear HNO HOP HKE HSH hO HF HTL
              go_wp2_with fail
              go_roundw
              case rel => exact ⟨k + 1, R, true, by omega, by go_num, rfl, HO⟩
              case measure => simp [Go.RowKit.intOf]; omega
      · have hkn2 : decide ((k : Int) < (np : Int)) = false := decide_eq_false (by omega)
        have hke : k = P.length := by rw [← HNP.out]; omega
        rw [hke, nxt_end] at hI
        obtain ⟨h1, h2, h3⟩ := HEND.out R o hI
        have HF : Hid (HasI wr u10 (R.map ofS) ∧ Below w.heap.size w wr ∧ Row true R ∧ Tms R ∧ (∀ x, inB R x = f x) ∧ R.length ≤ 4096) := ⟨hO.has, below2 (below2 HB2.out HW4.out) hO.bl, h1, h3, h2, by omega⟩
        clear hI h1 h2 h3 hO HI hh hke
        go_wp2_with fail
        go_ret
        exact ⟨_, R, rfl, HF.out⟩
set_option maxHeartbeats 16000000 in
set_option maxRecDepth 20000 in
theorem rowt2_any (a b : List Sp) (va vb : Value) (w : World) (ha : HasI w va (a.map ofS)) (hb : HasI w vb (b.map ofS)) (ta : Tms a) (tb : Tms b) (hla : a.length ≤ 1024) (hlb : b.length ≤ 1024) :
    Calls Try.prog 38 #[.int .i64 2, va, vb] w fun e w' => ∃ u R, e = .returned u ∧ HasI w' u (R.map ofS) ∧ Below w.heap.size w w' ∧ Row true R ∧ Tms R ∧ (∀ x, inB R x = fnH 2 a b x) ∧ R.length ≤ 4096 := by
  obtain ⟨oa, ca, rfl, _, _⟩ := HasRow.slice ha
  obtain ⟨ob, cb, rfl, _, _⟩ := HasRow.slice hb
  rw [List.length_map] at ha hb
  rw [List.length_map, List.length_map]
  obtain ⟨Y, hY⟩ : ∃ Y, Y = w.alloc (.cells #[] 36) := ⟨_, rfl⟩
  have hbY : Below w.heap.size w Y := by rw [hY]; exact below_new (Below.refl _ _) _
  have hO0 : OwnI w Y (.slice (some ⟨w.heap.size, 0, none⟩) 0 0) [] := ⟨by rw [hY]; exact World.ownsRow_lit (base := w.heap.size) w #[] 0 (Nat.le_refl _) (by decide) rfl, hbY⟩
  obtain ⟨v1, w1, hrun1, hO1, _⟩ := appI hO0 (ha.keep hbY) (by rw [List.length_map]; simp only [List.length_nil]; omega)
  obtain ⟨v2, w2, hrun2, hO2, _⟩ := appI hO1 (hb.keep hO1.bl) (by rw [List.nil_append, List.length_map, List.length_map]; omega)
  rw [List.nil_append, ← List.map_append] at hO2
  have HAB : Hid (∀ W, Below w2.heap.size w2 W → HasI W (.slice oa a.length ca) (a.map ofS) ∧ HasI W (.slice ob b.length cb) (b.map ofS)) := fun W hq => ⟨ha.keep (below2 hO2.bl hq), hb.keep (below2 hO2.bl hq)⟩
  have HB2 : Hid (Below w.heap.size w w2) := hO2.bl
  have hL := hO2.has
  obtain ⟨oL, cL, rfl, hcL, _⟩ := HasRow.slice hL
  rw [List.length_map] at hL hcL hrun2
  have HL : Hid (∀ W, Below w2.heap.size w2 W → HasI W (.slice oL (a ++ b).length cL) ((a ++ b).map ofS)) := fun W hq => hL.keep hq
  have HT : Hid (Tms (a ++ b)) := fun s hs => by
    rcases List.mem_append.1 hs with hs | hs
    · exact ta s hs
    · exact tb s hs
  have hlen : (a ++ b).length ≤ 2048 := by rw [List.length_append]; omega
  have HST := fun (k : Nat) (hk : k < (sortN (tms (a ++ b))).length) => pl_step ta tb 2 hk
  have HBD := fun (k : Nat) (hk : k < (sortN (tms (a ++ b))).length) => pl_bd ta tb hk
  have HS0 := pl_start (a := a) (b := b) 2 (by omega)
  have HEND := fun (R : List Sp) (o : Bool) => pl_end ta tb 2 (by omega) (R := R) (o := o)
  have HPL := sortN_len (tms (a ++ b))
  rw [tms_len] at HPL
  obtain ⟨f, hf⟩ : ∃ f, f = fnH 2 a b := ⟨_, rfl⟩
  rw [← hf] at HST HS0 HEND ⊢
  have HFV : Hid (∀ p, f p = how3 2 (inB a p) (inB b p)) := fun p => by rw [hf]; rfl
  have HIA : Hid (∀ p : Nat, inI (a.map ofS) (p : Int) = inB a p) := fun p => by rw [inI_to (tms_okI ta) (by omega), map_to_of, Int.toNat_natCast]
  have HIB : Hid (∀ p : Nat, inI (b.map ofS) (p : Int) = inB b p) := fun p => by rw [inI_to (tms_okI tb) (by omega), map_to_of, Int.toNat_natCast]
  obtain ⟨L, hLL⟩ : ∃ L, L = a ++ b := ⟨_, rfl⟩
  rw [← hLL] at HL HT hlen HST HBD HS0 HPL hcL hL hrun2
  replace HST : Hid _ := HST
  replace HBD : Hid _ := HBD
  replace HEND : Hid _ := HEND
  replace HS0 : Hid (RwI true f [] false (nxt true (sortN (tms L)) 0)) := HS0
  obtain ⟨n, hn⟩ : ∃ n, n = L.length := ⟨_, rfl⟩
  have HN : Hid (n = L.length) := hn
  rw [← hn] at HL hlen hcL HPL hrun2
  have hni : (n : Int) ≤ 2048 := by omega
  have H0 : Hid (OwnT w2 w2 (.slice none 0 0) (zs (tms (L.take 0)))) := by rw [List.take_zero]; exact OwnT.nil w2
  rw [hY] at hrun1
  clear ha hb ta tb hf hLL hn hL hO0 hO1 hO2 hbY hY
  generalize a.length = la at *
  generalize b.length = lb at *
  go_enter Try.func38, Try.ntmps38
  go_wp2_with fail
  go_loopw [7, 23] (fun u q wr => ∃ k : Nat, k ≤ n ∧ q = .int .i64 k ∧ Hid (OwnT w2 wr u (zs (tms (L.take k))))) (fun _ q _ => n - (Go.RowKit.intOf q).toNat)
  case atStart => exact ⟨0, by omega, rfl, H0⟩
  case round =>
    obtain ⟨k, hk, rfl, HI⟩ := hrel
    have hI := HI.out
    clear hrun1 hrun2 H0
    by_cases hlt : k < n
    · have hkz : k < L.length := by rw [← HN.out]; exact hlt
      have hh := HL.out _ hI.bl
      obtain ⟨g1, i1, rfl, hg1, a0, a1⟩ := HasI.cell hh k (by rw [List.length_map]; exact hkz)
      have e9 : (L.map ofS)[k]'(by rw [List.length_map]; exact hkz) = ofS L[k] := List.getElem_map _
      rw [e9] at a0 a1
      have HA : Hid (zs (tms (L.take (k + 1))) = zs (tms (L.take k)) ++ [(L[k].1 : Int), (L[k].2 : Int) + 1]) := by
        show _ = _
        rw [tms_snoc L k hkz, zs_app]; rfl
      have hb2 := (HT.out L[k] (List.getElem_mem hkz))
      have htk : (zs (tms (L.take k))).length + 2 ≤ 1000000 := by rw [zs_len, tms_len, List.length_take]; omega
      have hki : (k : Int) < (n : Int) := by omega
      obtain ⟨s, hs⟩ : ∃ s : Sp, s = L[k] := ⟨_, rfl⟩
      rw [← hs] at HA a0 a1 hb2
      obtain ⟨s1, s2⟩ := s
      clear hs e9 hh hg1 HI
      replace a0 : wr.cell? ⟨g1, i1 + k * 2, none⟩ = some (.int .i64 (s1 : Int)) := a0
      replace a1 : wr.cell? ⟨g1, i1 + k * 2 + 1, none⟩ = some (.int .i64 (s2 : Int)) := a1
      simp only at HA hb2
      unfold MaxT at hb2
      have hw1 : IntKind.i64.wrap ((s2 : Int) + 1) = (s2 : Int) + 1 := by rw [IntKind.wrap_i64]; omega
      obtain ⟨X, hX⟩ : ∃ X, X = wr.alloc (.cells #[.int .i64 (s1 : Int), .int .i64 (s2 : Int)] 36) := ⟨_, rfl⟩
      have hbX : Below wr.heap.size wr X := by rw [hX]; exact below_new (Below.refl _ _) _
      have r0 : RowAt X wr.heap.size [.int .i64 (s1 : Int), .int .i64 (s2 : Int)] 36 := by rw [hX]; exact RowAt.new _ _ _
      go_upto_region 5 with fail
      rw [← hX]
      have hO := hI.below hbX
      obtain ⟨gs, hgs⟩ : ∃ g, g = wr.heap.size := ⟨_, rfl⟩
      rw [← hgs] at r0 ⊢
      clear hX hbX a0 a1 hgs hI
      obtain ⟨v3, w3, hrun, hO3, _⟩ := appT (hO.below (below_new (Below.refl _ X) (.cells #[.int .i64 (s1 : Int), .int .i64 ((s2 : Int) + 1)] 2))) (lit2T X (s1 : Int) ((s2 : Int) + 1)) (by simp only [List.length_cons, List.length_nil]; omega)
      have HO : Hid (OwnT w2 w3 v3 (zs (tms (L.take (k + 1))))) := by show OwnT _ _ _ _; rw [HA.out]; exact hO3
      obtain ⟨p0, p1, pf⟩ := cells2 r0
      clear hO3 hO HA r0
      go_wp2_with fail
      go_roundw
      case rel => exact ⟨k + 1, by omega, by go_num, HO⟩
      case measure => simp [Go.RowKit.intOf]; omega
    have hkn : decide ((k : Int) < (n : Int)) = false := decide_eq_false (by omega)
    have hte : L.take k = L := List.take_of_length_le (by have := HN.out; omega)
    rw [hte] at hI
    have cs := rsorted_any (tms L) u7 wr hI.has (by rw [tms_len, ← HN.out]; omega)
    have HBW : Hid (Below w2.heap.size w2 wr) := hI.bl
    obtain ⟨P, hP⟩ : ∃ P, P = sortN (tms L) := ⟨_, rfl⟩
    rw [← hP] at cs HST HBD HS0 HPL
    clear hI HI hte hP HT HL
    go_wp2_with fail
    go_at_call 67; refine cs.mono ?_; rintro e w4 ⟨u4, rfl, hP4, hb4⟩
    clear cs
    have HW4 : Hid (Below w2.heap.size w2 w4) := below2 HBW.out hb4
    obtain ⟨oP, cP, rfl, hcP, _⟩ := HasRow.slice hP4
    rw [zs_len] at hP4 hcP ⊢
    have HRP : Hid (∀ W, Below w4.heap.size w4 W → HasT W (.slice oP P.length cP) (zs P)) := fun W hq => hP4.keep hq
    obtain ⟨np, hnp⟩ : ∃ n, n = P.length := ⟨_, rfl⟩
    have HNP : Hid (np = P.length) := hnp
    rw [← hnp] at HRP hcP HPL ⊢
    have hnpi : (np : Int) ≤ 4096 := by omega
    have H1 : Hid (OwnI w4 w4 (.slice none 0 0) (([] : List Sp).map ofS) ∧ RwI true f [] false (nxt true P 0) ∧ ([] : List Sp).length ≤ 0) := ⟨OwnI.nil w4, HS0.out, by simp⟩
    clear hP4 hb4 hnp HS0 HBW
    obtain ⟨wx, hwx⟩ : ∃ q, q = w4 := ⟨_, rfl⟩
    go_wp2_with fail
    go_loopw [10, 11, 39] (fun u t q wr => ∃ (k : Nat) (R : List Sp) (o : Bool), k ≤ np ∧ q = .int .i64 k ∧ t = .bool o ∧ Hid (OwnI w4 wr u (R.map ofS) ∧ RwI true f R o (nxt true P k) ∧ R.length ≤ k)) (fun _ _ q _ => np - (Go.RowKit.intOf q).toNat)
    case atStart => exact ⟨0, [], false, by omega, rfl, rfl, H1⟩
    case round =>
      obtain ⟨k, R, o, hk, rfl, rfl, HI⟩ := hrel
      clear H1
      obtain ⟨hO, hI, hRk⟩ := HI.out
      have hh := HRP.out _ hO.bl
      by_cases hlt : k < np
      · have hkz : k < P.length := by rw [← HNP.out]; exact hlt
        obtain ⟨g1, i1, rfl, hg1, a0⟩ := HasT.cell hh k (by rw [zs_len]; exact hkz)
        have e9 : (zs P)[k]'(by rw [zs_len]; exact hkz) = (P[k] : Int) := List.getElem_map _
        rw [e9] at a0
        have hki : (k : Int) < (np : Int) := by omega
        rw [nxt_at hkz] at hI
        obtain ⟨s1, hcf⟩ := HST.out k hkz
        have hpb := HBD.out k hkz
        obtain ⟨p, hp⟩ : ∃ p, p = P[k] := ⟨_, rfl⟩
        rw [← hp] at hI s1 hcf hpb a0
        have hpt : p ≤ topN true := by rw [top6]; unfold MaxT at hpb; omega
        have HNO : Hid (o = false → f p = false → RwI true f R false (nxt true P (k + 1))) := fun h1 h2 => by subst h1; exact rw_skip hI s1 hcf h2
        have HOP : Hid (o = false → f p = true → RwI true f (R ++ [(p, 0)]) true (nxt true P (k + 1))) := fun h1 h2 => by subst h1; exact rw_open hI s1 hcf h2
        have HKE : Hid (o = true → f p = true → RwI true f R true (nxt true P (k + 1))) := fun h1 h2 => by subst h1; exact rw_keep hI s1 hcf h2
        have HTL : Hid (o = true → ∃ A2 q, R = A2 ++ [(q, 0)]) := fun h1 => by subst h1; exact rw_tail hI
        have HSH : Hid (o = true → f p = false → ∀ A2 q, R = A2 ++ [(q, 0)] → RwI true f (A2 ++ [(q, p - 1)]) false (nxt true P (k + 1)) ∧ 0 < p) := fun h1 h2 A2 q hR => by
          subst h1 hR
          refine ⟨rw_shut hI s1 hcf h2 hpt, ?_⟩
          obtain ⟨_, _, _, hqp, _⟩ := hI.2 rfl
          omega
        have c1 := fun (W : World) (hq : HasI W (.slice oa la ca) (a.map ofS)) => rin_any (a.map ofS) (p : Int) _ W hq
        have c2 := fun (W : World) (hq : HasI W (.slice ob lb cb) (b.map ofS)) => rin_any (b.map ofS) (p : Int) _ W hq
        rw [HIA.out] at c1
        rw [HIB.out] at c2
        have HFP : Hid (f p = how3 2 (inB a p) (inB b p)) := HFV.out p
        generalize inB a p = IA at c1 HFP
        generalize inB b p = IB at c2 HFP
        unfold MaxT at hpb
        clear e9 hp hI hcf s1 hpt HI hkz hh hg1
        go_wp2_with fail
        go_at_call 41; refine (c1 _ (HAB.out _ (below2 HW4.out hO.bl)).1).mono ?_; rintro e w5 ⟨rfl, hb5⟩
        replace hO := hO.below hb5
        clear c1 a0 hb5
        go_wp2_with fail
        go_at_call 41; refine (c2 _ (HAB.out _ (below2 HW4.out hO.bl)).2).mono ?_; rintro e wq ⟨rfl, hb6⟩
        replace hO := hO.below hb6
        clear c2 hb6
        cases IA
        · cases IB
          · have HF : Hid (f p = false) := HFP.out.trans rfl
            clear HFP
            cases o
            · have HO : Hid (OwnI w4 wq u10 (R.map ofS) ∧ RwI true f R false (nxt true P (k + 1)) ∧ R.length ≤ k + 1) := ⟨hO, HNO.out rfl HF.out, by omega⟩
              clear HNO HOP HKE HSH hO HF HTL
              go_wp2_with fail
              go_roundw
              case rel => exact ⟨k + 1, R, false, by omega, by go_num, rfl, HO⟩
              case measure => simp [Go.RowKit.intOf]; omega
            · obtain ⟨A2, q, hR⟩ := HTL.out rfl
              subst hR
              obtain ⟨HA1, hp0⟩ := HSH.out rfl HF.out A2 q rfl
              have HA : Hid (RwI true f (A2 ++ [(q, p - 1)]) false (nxt true P (k + 1))) := HA1
              have hRk2 : A2.length + 1 ≤ k := by have : (A2 ++ [(q, 0)]).length ≤ k := hRk; simp at this; exact this
              rw [ofS_snoc] at hO
              obtain ⟨gr, c5, rfl, hc5, hc6, hg5, hg6⟩ := own_shapeI hO (by simp)
              have e0 : (A2.map ofS ++ [((q : Int), ((0 : Nat) : Int))]).length = (A2.map ofS).length + 1 := by simp
              rw [e0] at hO hc5 ⊢
              obtain ⟨y5, hY5⟩ : ∃ Y, Y = wq.setCell ⟨gr, (A2.map ofS).length * 2 + 1, none⟩ (.int .i64 ((p : Int) - 1)) := ⟨_, rfl⟩
              have hO2 := own_putI ((p : Int) - 1) hO hg5
              rw [← hY5] at hO2
              have hou := hO.ou
              rw [e0] at hou
              have hcl := hou.cellAt ((A2.map ofS).length * 2 + 1) (by omega)
              have hcl2 : ∃ z, wq.cell? ⟨gr, (A2.map ofS).length * 2 + 1, none⟩ = some z := ⟨_, hcl.trans (List.getElem?_eq_getElem (by rw [csI_len, e0]; omega))⟩
              obtain ⟨z5, hz5⟩ := hcl2
              have qf := hou.frozenAt
              have HO : Hid (OwnI w4 y5 (.slice (some ⟨gr, 0, none⟩) ((A2.map ofS).length + 1) c5) ((A2 ++ [(q, p - 1)]).map ofS) ∧ RwI true f (A2 ++ [(q, p - 1)]) false (nxt true P (k + 1)) ∧ (A2 ++ [(q, p - 1)]).length ≤ k + 1) := ⟨by rw [ofS_snoc, show ((p - 1 : Nat) : Int) = (p : Int) - 1 by omega]; exact hO2, HA.out, by simp; omega⟩
              have hn5 : (A2.map ofS).length + 1 ≤ 4098 := by rw [List.length_map]; omega
              clear hO2 hO HNO HOP HKE HSH HF HTL HA HA1 hcl e0 hRk hou
              obtain ⟨n2, hn2⟩ : ∃ n2, n2 = (A2.map ofS).length := ⟨_, rfl⟩
              rw [← hn2] at HO hc5 hn5 hz5 hY5 ⊢
              clear hn2
              have hpz : IntKind.i64.wrap ((p : Int) - 1) = (p : Int) - 1 := by rw [IntKind.wrap_i64]; omega
              have hp0' : decide ((n2 : Int) < 0) = false := decide_eq_false (by omega)
              have hpi : (n2 : Int) ≤ 4098 := by omega
              have hw5 : IntKind.i64.wrap (n2 : Int) = (n2 : Int) := by rw [IntKind.wrap_i64]; omega
              have hs5 : (n2 : Int) + 1 - 1 = (n2 : Int) := by omega
              have hl5 : (n2 : Int) < (n2 : Int) + 1 := by omega
              go_upto_region 20 with fail
              rw [← hY5]
              clear hY5 hz5 qf
              go_wp2_with fail
              go_roundw
              case rel => exact ⟨k + 1, A2 ++ [(q, p - 1)], false, by omega, by go_num, rfl, HO⟩
              case measure => simp [Go.RowKit.intOf]; omega
          · have HF : Hid (f p = false) := HFP.out.trans rfl
            clear HFP
            cases o
            · have HO : Hid (OwnI w4 wq u10 (R.map ofS) ∧ RwI true f R false (nxt true P (k + 1)) ∧ R.length ≤ k + 1) := ⟨hO, HNO.out rfl HF.out, by omega⟩
              clear HNO HOP HKE HSH hO HF HTL
              go_wp2_with fail
              go_roundw
              case rel => exact ⟨k + 1, R, false, by omega, by go_num, rfl, HO⟩
              case measure => simp [Go.RowKit.intOf]; omega
            · obtain ⟨A2, q, hR⟩ := HTL.out rfl
              subst hR
              obtain ⟨HA1, hp0⟩ := HSH.out rfl HF.out A2 q rfl
              have HA : Hid (RwI true f (A2 ++ [(q, p - 1)]) false (nxt true P (k + 1))) := HA1
              have hRk2 : A2.length + 1 ≤ k := by have : (A2 ++ [(q, 0)]).length ≤ k := hRk; simp at this; exact this
              rw [ofS_snoc] at hO
              obtain ⟨gr, c5, rfl, hc5, hc6, hg5, hg6⟩ := own_shapeI hO (by simp)
              have e0 : (A2.map ofS ++ [((q : Int), ((0 : Nat) : Int))]).length = (A2.map ofS).length + 1 := by simp
              rw [e0] at hO hc5 ⊢
              obtain ⟨y5, hY5⟩ : ∃ Y, Y = wq.setCell ⟨gr, (A2.map ofS).length * 2 + 1, none⟩ (.int .i64 ((p : Int) - 1)) := ⟨_, rfl⟩
              have hO2 := own_putI ((p : Int) - 1) hO hg5
              rw [← hY5] at hO2
              have hou := hO.ou
              rw [e0] at hou
              have hcl := hou.cellAt ((A2.map ofS).length * 2 + 1) (by omega)
              have hcl2 : ∃ z, wq.cell? ⟨gr, (A2.map ofS).length * 2 + 1, none⟩ = some z := ⟨_, hcl.trans (List.getElem?_eq_getElem (by rw [csI_len, e0]; omega))⟩
              obtain ⟨z5, hz5⟩ := hcl2
              have qf := hou.frozenAt
              have HO : Hid (OwnI w4 y5 (.slice (some ⟨gr, 0, none⟩) ((A2.map ofS).length + 1) c5) ((A2 ++ [(q, p - 1)]).map ofS) ∧ RwI true f (A2 ++ [(q, p - 1)]) false (nxt true P (k + 1)) ∧ (A2 ++ [(q, p - 1)]).length ≤ k + 1) := ⟨by rw [ofS_snoc, show ((p - 1 : Nat) : Int) = (p : Int) - 1 by omega]; exact hO2, HA.out, by simp; omega⟩
              have hn5 : (A2.map ofS).length + 1 ≤ 4098 := by rw [List.length_map]; omega
              clear hO2 hO HNO HOP HKE HSH HF HTL HA HA1 hcl e0 hRk hou
              obtain ⟨n2, hn2⟩ : ∃ n2, n2 = (A2.map ofS).length := ⟨_, rfl⟩
              rw [← hn2] at HO hc5 hn5 hz5 hY5 ⊢
              clear hn2
              have hpz : IntKind.i64.wrap ((p : Int) - 1) = (p : Int) - 1 := by rw [IntKind.wrap_i64]; omega
              have hp0' : decide ((n2 : Int) < 0) = false := decide_eq_false (by omega)
              have hpi : (n2 : Int) ≤ 4098 := by omega
              have hw5 : IntKind.i64.wrap (n2 : Int) = (n2 : Int) := by rw [IntKind.wrap_i64]; omega
              have hs5 : (n2 : Int) + 1 - 1 = (n2 : Int) := by omega
              have hl5 : (n2 : Int) < (n2 : Int) + 1 := by omega
              go_upto_region 20 with fail
              rw [← hY5]
              clear hY5 hz5 qf
              go_wp2_with fail
              go_roundw
              case rel => exact ⟨k + 1, A2 ++ [(q, p - 1)], false, by omega, by go_num, rfl, HO⟩
              case measure => simp [Go.RowKit.intOf]; omega
        · cases IB
          · have HF : Hid (f p = true) := HFP.out.trans rfl
            clear HFP
            cases o
            · obtain ⟨v3, w3, hrun, hO3, _⟩ := appI (hO.below (below_new (Below.refl _ wq) (.cells #[.int .i64 (p : Int), .int .i64 0] 36))) (litI wq ((p : Int), 0) 36) (by rw [List.length_map]; simp only [List.length_cons, List.length_nil]; omega)
              have HO : Hid (OwnI w4 w3 v3 ((R ++ [(p, 0)]).map ofS) ∧ RwI true f (R ++ [(p, 0)]) true (nxt true P (k + 1)) ∧ (R ++ [(p, 0)]).length ≤ k + 1) := ⟨by rw [ofS_snoc]; exact hO3, HOP.out rfl HF.out, by rw [List.length_append]; simp only [List.length_cons, List.length_nil]; omega⟩
              clear hO3 hO HNO HOP HKE HSH HF HTL
              go_wp2_with fail
              go_roundw
              case rel => exact ⟨k + 1, R ++ [(p, 0)], true, by omega, by go_num, rfl, HO⟩
              case measure => simp [Go.RowKit.intOf]; omega
            · have HO : Hid (OwnI w4 wq u10 (R.map ofS) ∧ RwI true f R true (nxt true P (k + 1)) ∧ R.length ≤ k + 1) := ⟨hO, HKE.out rfl HF.out, by omega⟩
              clear HNO HOP HKE HSH hO HF HTL
              go_wp2_with fail
              go_roundw
              case rel => exact ⟨k + 1, R, true, by omega, by go_num, rfl, HO⟩
              case measure => simp [Go.RowKit.intOf]; omega
          · have HF : Hid (f p = false) := HFP.out.trans rfl
            clear HFP
            cases o
            · have HO : Hid (OwnI w4 wq u10 (R.map ofS) ∧ RwI true f R false (nxt true P (k + 1)) ∧ R.length ≤ k + 1) := ⟨hO, HNO.out rfl HF.out, by omega⟩
              clear HNO HOP HKE HSH hO HF HTL
              go_wp2_with fail
              go_roundw
              case rel => exact ⟨k + 1, R, false, by omega, by go_num, rfl, HO⟩
              case measure => simp [Go.RowKit.intOf]; omega
            · obtain ⟨A2, q, hR⟩ := HTL.out rfl
              subst hR
              obtain ⟨HA1, hp0⟩ := HSH.out rfl HF.out A2 q rfl
              have HA : Hid (RwI true f (A2 ++ [(q, p - 1)]) false (nxt true P (k + 1))) := HA1
              have hRk2 : A2.length + 1 ≤ k := by have : (A2 ++ [(q, 0)]).length ≤ k := hRk; simp at this; exact this
              rw [ofS_snoc] at hO
              obtain ⟨gr, c5, rfl, hc5, hc6, hg5, hg6⟩ := own_shapeI hO (by simp)
              have e0 : (A2.map ofS ++ [((q : Int), ((0 : Nat) : Int))]).length = (A2.map ofS).length + 1 := by simp
              rw [e0] at hO hc5 ⊢
              obtain ⟨y5, hY5⟩ : ∃ Y, Y = wq.setCell ⟨gr, (A2.map ofS).length * 2 + 1, none⟩ (.int .i64 ((p : Int) - 1)) := ⟨_, rfl⟩
              have hO2 := own_putI ((p : Int) - 1) hO hg5
              rw [← hY5] at hO2
              have hou := hO.ou
              rw [e0] at hou
              have hcl := hou.cellAt ((A2.map ofS).length * 2 + 1) (by omega)
              have hcl2 : ∃ z, wq.cell? ⟨gr, (A2.map ofS).length * 2 + 1, none⟩ = some z := ⟨_, hcl.trans (List.getElem?_eq_getElem (by rw [csI_len, e0]; omega))⟩
              obtain ⟨z5, hz5⟩ := hcl2
              have qf := hou.frozenAt
              have HO : Hid (OwnI w4 y5 (.slice (some ⟨gr, 0, none⟩) ((A2.map ofS).length + 1) c5) ((A2 ++ [(q, p - 1)]).map ofS) ∧ RwI true f (A2 ++ [(q, p - 1)]) false (nxt true P (k + 1)) ∧ (A2 ++ [(q, p - 1)]).length ≤ k + 1) := ⟨by rw [ofS_snoc, show ((p - 1 : Nat) : Int) = (p : Int) - 1 by omega]; exact hO2, HA.out, by simp; omega⟩
              have hn5 : (A2.map ofS).length + 1 ≤ 4098 := by rw [List.length_map]; omega
              clear hO2 hO HNO HOP HKE HSH HF HTL HA HA1 hcl e0 hRk hou
              obtain ⟨n2, hn2⟩ : ∃ n2, n2 = (A2.map ofS).length := ⟨_, rfl⟩
              rw [← hn2] at HO hc5 hn5 hz5 hY5 ⊢
              clear hn2
              have hpz : IntKind.i64.wrap ((p : Int) - 1) = (p : Int) - 1 := by rw [IntKind.wrap_i64]; omega
              have hp0' : decide ((n2 : Int) < 0) = false := decide_eq_false (by omega)
              have hpi : (n2 : Int) ≤ 4098 := by omega
              have hw5 : IntKind.i64.wrap (n2 : Int) = (n2 : Int) := by rw [IntKind.wrap_i64]; omega
              have hs5 : (n2 : Int) + 1 - 1 = (n2 : Int) := by omega
              have hl5 : (n2 : Int) < (n2 : Int) + 1 := by omega
              go_upto_region 20 with fail
              rw [← hY5]
              clear hY5 hz5 qf
              go_wp2_with fail
              go_roundw
              case rel => exact ⟨k + 1, A2 ++ [(q, p - 1)], false, by omega, by go_num, rfl, HO⟩
              case measure => simp [Go.RowKit.intOf]; omega
      · have hkn2 : decide ((k : Int) < (np : Int)) = false := decide_eq_false (by omega)
        have hke : k = P.length := by rw [← HNP.out]; omega
        rw [hke, nxt_end] at hI
        obtain ⟨h1, h2, h3⟩ := HEND.out R o hI
        have HF : Hid (HasI wr u10 (R.map ofS) ∧ Below w.heap.size w wr ∧ Row true R ∧ Tms R ∧ (∀ x, inB R x = f x) ∧ R.length ≤ 4096) := ⟨hO.has, below2 (below2 HB2.out HW4.out) hO.bl, h1, h3, h2, by omega⟩
        clear hI h1 h2 h3 hO HI hh hke
        go_wp2_with fail
        go_ret
        exact ⟨_, R, rfl, HF.out⟩
end Go.Proofs.Ytebjklhffccomaa.Iv
namespace Go.Proofs.Ytebjklhffccomaa.Iv
open Go.RowKit Go.Shelf
open Go.Proofs.Ytebjklhffccomaa.Lk (HasRow hasRow_own addr_add)
open Go.Proofs.Ytebjklhffccomaa.Sp (Sp inB inB_iff inB_nil Row rowB row_ext okS okS_iff okB okB_iff topN chk)
open Go.Proofs.Ytebjklhffccomaa.Addr (RowAt below2 below_drew below_new bset RowAt.lt RowAt.cell RowAt.frozen RowAt.below RowAt.drew RowAt.new RowAt.alloc cells2)
theorem rowt_any (h : Nat) (hh : h ≤ 2) (a b : List Sp) (va vb : Value) (w : World) (ha : HasI w va (a.map ofS)) (hb : HasI w vb (b.map ofS)) (ta : Tms a) (tb : Tms b) (hla : a.length ≤ 1024) (hlb : b.length ≤ 1024) :
    Calls Try.prog 38 #[.int .i64 (h : Int), va, vb] w fun e w' => ∃ u R, e = .returned u ∧ HasI w' u (R.map ofS) ∧ Below w.heap.size w w' ∧ Row true R ∧ Tms R ∧ (∀ x, inB R x = fnH h a b x) ∧ R.length ≤ 4096 := by
  have : h = 0 ∨ h = 1 ∨ h = 2 := by omega
  rcases this with rfl | rfl | rfl
  · exact rowt0_any a b va vb w ha hb ta tb hla hlb
  · exact rowt1_any a b va vb w ha hb ta tb hla hlb
  · exact rowt2_any a b va vb w ha hb ta tb hla hlb
theorem okJ_one (wi : Iv) : okJ [wi] = okI wi := by
  cases h : okI wi
  · cases h2 : okJ [wi]
    · rfl
    · have := List.all_eq_true.1 (okJ_all h2) wi List.mem_cons_self
      rw [h] at this; cases this
  · exact row_one h
theorem fn_not (l : List Iv) (wi : Iv) (x : Nat) : fnH 2 ([wi].map toS) (l.map toS) x = notM l wi x := by
  have e6 : inB ([wi].map toS) x = (decide (wi.1.toNat ≤ x) && decide (x ≤ wi.2.toNat)) := by
    rw [Bool.eq_iff_iff, inB_iff]
    simp only [List.map_cons, List.map_nil, List.mem_singleton, exists_eq_left, Bool.and_eq_true, decide_eq_true_eq]
    exact Iff.rfl
  show (inB ([wi].map toS) x && !inB (l.map toS) x) = _
  rw [e6]; rfl
set_option maxHeartbeats 4000000 in
theorem rset_any (h : Nat) (hh : h ≤ 2) (la lb : List Iv) (va vb : Value) (w : World) (ha : HasI w va la) (hb : HasI w vb lb) (hfa : ∀ x ∈ la, FitI x) (hfb : ∀ x ∈ lb, FitI x) :
    Calls Try.prog 45 #[.int .i64 (h : Int), va, vb] w (PostI w (SetI (okJ la && okJ lb) (fun x => fnH h (la.map toS) (lb.map toS) x) 4096)) := by
  have ck1 := rchk_any la va w ha hfa
  have ck2 := fun (W : World) (hq : Below w.heap.size w W) => rchk_any lb vb W (hb.keep hq) hfb
  have HROW : Hid (okJ la = true → okJ lb = true → ∀ W, Below w.heap.size w W → Calls Try.prog 38 #[.int .i64 (h : Int), va, vb] W fun e w' => ∃ u R, e = .returned u ∧ HasI w' u (R.map ofS) ∧ Below W.heap.size W w' ∧ Row true R ∧ Tms R ∧ (∀ x, inB R x = fnH h (la.map toS) (lb.map toS) x) ∧ R.length ≤ 4096) := fun h1 h2 W hq => by
    refine rowt_any h hh (la.map toS) (lb.map toS) va vb W ?_ ?_ (tms_to (okJ_all h1)) (tms_to (okJ_all h2)) (by rw [List.length_map]; exact okJ_len h1) (by rw [List.length_map]; exact okJ_len h2)
    · rw [map_of_to (okJ_all h1)]; exact ha.keep hq
    · rw [map_of_to (okJ_all h2)]; exact hb.keep hq
  obtain ⟨m, hm⟩ : ∃ m : Nat → Bool, m = (fun x => fnH h (la.map toS) (lb.map toS) x) := ⟨_, rfl⟩
  rw [← hm]
  have HM : Hid (∀ R : List Sp, (∀ x, inB R x = fnH h (la.map toS) (lb.map toS) x) → ∀ x, inB R x = m x) := fun R hR x => by rw [hm]; exact hR x
  clear hm
  obtain ⟨oa, ca, rfl, _, _⟩ := HasRow.slice ha
  obtain ⟨ob, cb, rfl, _, _⟩ := HasRow.slice hb
  generalize okJ la = A at *
  generalize okJ lb = B at *
  clear ha hb hfa hfb
  generalize la.length = na at *
  generalize lb.length = nb at *
  go_enter Try.func45, Try.ntmps45
  go_wp2_with fail
  go_at_call 19; refine ck1.mono ?_; rintro e w2 ⟨rfl, hb2⟩
  clear ck1
  cases A
  · clear HROW ck2
    unfold chk
    go_wp2_with fail
    go_ret2
    exact ⟨_, [], 2, rfl, hasI_nil _, hb2, setI_bad⟩
  · unfold chk at ck2 ⊢
    go_wp2_with fail
    go_at_call 19; refine (ck2 _ hb2).mono ?_; rintro e w3 ⟨rfl, hb3⟩
    replace hb2 := below2 hb2 hb3
    cases B
    · clear HROW ck2 hb3
      go_wp2_with fail
      go_ret2
      exact ⟨_, [], 2, rfl, hasI_nil _, hb2, setI_bad⟩
    · have cr := HROW.out (by first | rfl | trivial) (by first | rfl | trivial) w3 hb2
      clear HROW ck2 hb3
      go_wp2_with fail
      go_at_call 38; refine cr.mono ?_; rintro e w4 ⟨u, R, rfl, hO, hbl, h1, h2, h3, h4⟩
      clear cr
      replace h3 := HM.out R h3
      have hbl := below2 hb2 hbl
      obtain ⟨o5, c5, rfl, hc5, hc6⟩ := HasRow.slice hO
      rw [List.length_map] at hO hc5 ⊢
      by_cases hl : R.length ≤ 1024
      · have HA : Hid (PostI w (SetI true m 4096) (.returned (.tuple #[.slice o5 R.length c5, .int .i64 0])) w4) := ⟨_, R, 0, rfl, hO, hbl, ⟨(fun h => by cases h), fun _ => .inl ⟨rfl, h1, h2, h3, hl, h4⟩⟩⟩
        have hq1 : decide ((1024 : Int) < (R.length : Int)) = false := decide_eq_false (by omega)
        have hq2 : decide (1024 < R.length) = false := decide_eq_false (by omega)
        generalize R.length = n at *
        clear hO h1 h2 h3 hl hb2 hbl
        go_wp2_with fail
        go_ret2
        exact HA.out
      · have HA : Hid (PostI w (SetI true m 4096) (.returned (.tuple #[.slice none 0 0, .int .i64 11])) w4) := ⟨_, [], 11, rfl, hasI_nil _, hbl, ⟨(fun h => by cases h), fun _ => .inr ⟨rfl, rfl, R, h1, h3, by omega, h4⟩⟩⟩
        have hq1 : decide ((1024 : Int) < (R.length : Int)) = true := decide_eq_true (by omega)
        have hq2 : decide (1024 < R.length) = true := decide_eq_true (by omega)
        generalize R.length = n at *
        clear hO h1 h2 h3 hl hb2 hbl
        go_wp2_with fail
        go_ret2
        exact HA.out
theorem ror_any (la lb : List Iv) (va vb : Value) (w : World) (ha : HasI w va la) (hb : HasI w vb lb) (hfa : ∀ x ∈ la, FitI x) (hfb : ∀ x ∈ lb, FitI x) :
    Calls Try.prog 21 #[va, vb] w (PostI w (SetI (okJ la && okJ lb) (fun x => inB (la.map toS) x || inB (lb.map toS) x) 4096)) := by
  have cs : Calls Try.prog 45 #[.int .i64 0, va, vb] w (PostI w (SetI (okJ la && okJ lb) (fun x => inB (la.map toS) x || inB (lb.map toS) x) 4096)) := rset_any 0 (by omega) la lb va vb w ha hb hfa hfb
  generalize SetI (okJ la && okJ lb) (fun x => inB (la.map toS) x || inB (lb.map toS) x) 4096 = Q at *
  obtain ⟨oa, ca, rfl, _, _⟩ := HasRow.slice ha
  obtain ⟨ob, cb, rfl, _, _⟩ := HasRow.slice hb
  generalize la.length = na at *
  generalize lb.length = nb at *
  clear ha hb hfa hfb
  go_enter Try.func21, Try.ntmps21
  go_wp2_with fail
  go_at_call 45; refine cs.mono ?_; rintro e w2 ⟨u, R, why, rfl, h1, h2, h3⟩
  have HA : Hid (PostI w Q (.returned (.tuple #[u, .int .i64 why])) w2) := ⟨u, R, why, rfl, h1, h2, h3⟩
  clear cs h1 h2 h3
  go_wp2_with fail
  go_ret2
  exact HA.out
theorem rand_any (la lb : List Iv) (va vb : Value) (w : World) (ha : HasI w va la) (hb : HasI w vb lb) (hfa : ∀ x ∈ la, FitI x) (hfb : ∀ x ∈ lb, FitI x) :
    Calls Try.prog 23 #[va, vb] w (PostI w (SetI (okJ la && okJ lb) (fun x => inB (la.map toS) x && inB (lb.map toS) x) 4096)) := by
  have cs : Calls Try.prog 45 #[.int .i64 1, va, vb] w (PostI w (SetI (okJ la && okJ lb) (fun x => inB (la.map toS) x && inB (lb.map toS) x) 4096)) := rset_any 1 (by omega) la lb va vb w ha hb hfa hfb
  generalize SetI (okJ la && okJ lb) (fun x => inB (la.map toS) x && inB (lb.map toS) x) 4096 = Q at *
  obtain ⟨oa, ca, rfl, _, _⟩ := HasRow.slice ha
  obtain ⟨ob, cb, rfl, _, _⟩ := HasRow.slice hb
  generalize la.length = na at *
  generalize lb.length = nb at *
  clear ha hb hfa hfb
  go_enter Try.func23, Try.ntmps23
  go_wp2_with fail
  go_at_call 45; refine cs.mono ?_; rintro e w2 ⟨u, R, why, rfl, h1, h2, h3⟩
  have HA : Hid (PostI w Q (.returned (.tuple #[u, .int .i64 why])) w2) := ⟨u, R, why, rfl, h1, h2, h3⟩
  clear cs h1 h2 h3
  go_wp2_with fail
  go_ret2
  exact HA.out
theorem rnot_any (l : List Iv) (wi : Iv) (v : Value) (w : World) (hl : HasI w v l) (hf : ∀ x ∈ l, FitI x) (hw : FitI wi) :
    Calls Try.prog 25 #[v, .agg #[.int .i64 wi.1, .int .i64 wi.2]] w (PostI w (SetI (okJ l && okI wi) (notM l wi) 4096)) := by
  have key : ∀ (g : Nat) (W : World), HasI W (.slice (some ⟨g, 0, none⟩) 1 1) [wi] → HasI W v l → Calls Try.prog 45 #[.int .i64 2, .slice (some ⟨g, 0, none⟩) 1 1, v] W (PostI W (SetI (okJ l && okI wi) (notM l wi) 4096)) := fun g W h1 h2 => by
    have := rset_any 2 (by omega) [wi] l _ _ W h1 h2 (fun x hx => by rw [List.mem_singleton.1 hx]; exact hw) hf
    rw [okJ_one, Bool.and_comm, show (fun x => fnH 2 ([wi].map toS) (l.map toS) x) = notM l wi from funext (fn_not l wi)] at this
    exact this
  generalize SetI (okJ l && okI wi) (notM l wi) 4096 = Q at *
  obtain ⟨o, c, rfl, _, _⟩ := HasRow.slice hl
  generalize l.length = n at *
  obtain ⟨X0, hX0⟩ : ∃ X, X = w.alloc (.cells #[.int .i64 wi.1, .int .i64 wi.2] 36) := ⟨_, rfl⟩
  have hB : Below w.heap.size w X0 := by rw [hX0]; exact below_new (Below.refl _ _) _
  have rp : RowAt X0 w.heap.size [.int .i64 wi.1, .int .i64 wi.2] 36 := by rw [hX0]; exact RowAt.new _ _ _
  obtain ⟨X1, hX1⟩ : ∃ X, X = X0.alloc (.cells #[.int .i64 wi.1, .int .i64 wi.2] 36) := ⟨_, rfl⟩
  have hb : Below X0.heap.size X0 X1 := by rw [hX1]; exact below_new (Below.refl _ _) _
  have hrW : HasI X1 (.slice (some ⟨X0.heap.size, 0, none⟩) 1 1) [wi] := by rw [hX1]; exact litI X0 wi 36
  have cs := key _ X1 hrW ((hl.keep hB).keep hb)
  have hB2 := below2 hB hb
  clear key hl hf hw hb
  obtain ⟨x0, x1, xf⟩ := cells2 rp
  go_enter Try.func25, Try.ntmps25
  go_upto_region 1 with fail
  rw [← hX0]
  clear hX0
  go_wp2_with fail
  rw [← hX1]
  clear hX1
  go_at_call 45; refine cs.mono ?_; rintro e w2 ⟨u, R, why, rfl, h1, h2, h3⟩
  have HA : Hid (PostI w Q (.returned (.tuple #[u, .int .i64 why])) w2) := ⟨u, R, why, rfl, h1, below2 hB2 h2, h3⟩
  clear cs h1 h2 h3 x0 x1 xf hrW rp hB
  go_wp2_with fail
  go_ret2
  exact HA.out
set_option maxHeartbeats 4000000 in
set_option maxRecDepth 20000 in
theorem rmake_any (l : List Iv) (v : Value) (w : World) (hl : HasI w v l) :
    Calls Try.prog 12 #[v] w (PostI w (MkI2 l)) := by
  obtain ⟨o, c, rfl, hc1, hc2⟩ := HasRow.slice hl
  by_cases hlen : 1024 < l.length
  · have hq1 : decide ((1024 : Int) < (l.length : Int)) = true := decide_eq_true (by omega)
    have hq2 : decide (1024 < l.length) = true := decide_eq_true hlen
    have HP : Hid (MkI2 l [] 11) := .inl ⟨hlen, rfl, rfl⟩
    generalize MkI2 l = P at *
    generalize l.length = n at *
    clear hl
    go_enter Try.func12, Try.ntmps12
    go_wp2_with fail
    go_ret2
    exact ⟨_, [], 11, rfl, hasI_nil _, Below.refl _ _, HP.out⟩
  have hq1 : decide ((1024 : Int) < (l.length : Int)) = false := decide_eq_false (by omega)
  have hq2 : decide (1024 < l.length) = false := decide_eq_false hlen
  have HBAD : Hid (l.all okI = false → MkI2 l [] 2) := fun h => .inr (.inl ⟨by omega, h, rfl, rfl⟩)
  have HGOOD : Hid (l.all okI = true → ∀ R, Row true R → Tms R → (∀ x, inB R x = fnH 0 (l.map toS) [] x) → MkI2 l R 0) := fun h R h1 h2 h3 => .inr (.inr ⟨by omega, h, rfl, h1, h2, fun x => by rw [h3]; show (inB (l.map toS) x || inB [] x) = _; rw [inB_nil, Bool.or_false]⟩)
  have HROW : Hid (l.all okI = true → ∀ W, Below w.heap.size w W → Calls Try.prog 38 #[.int .i64 0, .slice o l.length c, .slice none 0 0] W fun e w' => ∃ u R, e = .returned u ∧ HasI w' u (R.map ofS) ∧ Below W.heap.size W w' ∧ Row true R ∧ Tms R ∧ (∀ x, inB R x = fnH 0 (l.map toS) [] x) ∧ R.length ≤ 4096) := fun h1 W hq => by
    refine rowt0_any (l.map toS) [] _ _ W ?_ (hasI_nil W) (tms_to h1) (fun s hs => by cases hs) (by rw [List.length_map]; omega) (by simp)
    rw [map_of_to h1]; exact hl.keep hq
  have HR : Hid (∀ wr : World, Below w.heap.size w wr → HasI wr (.slice o l.length c) l) := fun wr hb => hl.keep hb
  have HO2 : Hid (∀ (k : Nat) (hk : k < l.length), okI l[k] = false → l.all okI = false) := fun k hk hs => List.all_eq_false.2 ⟨_, List.getElem_mem hk, by rw [hs]; simp⟩
  obtain ⟨n, hn⟩ : ∃ n, n = l.length := ⟨_, rfl⟩
  have HN : Hid (n = l.length) := hn
  rw [← hn] at HR HROW hc1 hq1 hq2 hlen ⊢
  have hni : (n : Int) ≤ 1024 := by omega
  generalize MkI2 l = P at *
  clear hl hn
  go_enter Try.func12, Try.ntmps12
  go_wp2_with fail
  go_loopw [11] (fun i wr => ∃ k : Nat, k ≤ n ∧ i = .int .i64 k ∧ Below w.heap.size w wr ∧ Hid (∀ x ∈ l.take k, okI x = true)) (fun i _ => n - (Go.RowKit.intOf i).toNat)
  case atStart => exact ⟨0, by omega, rfl, Below.refl _ _, by rw [List.take_zero]; exact (by intro s hs; cases hs)⟩
  case round =>
    obtain ⟨k, hk, rfl, hB, HG⟩ := hrel
    by_cases hlt : k < n
    · have hkz : k < l.length := by rw [← HN.out]; exact hlt
      obtain ⟨g1, i1, rfl, hg1, a0, a1⟩ := HasI.cell (HR.out _ hB) k hkz
      have hki : (k : Int) < (n : Int) := by omega
      have c1 : ∀ W : World, Calls Try.prog 37 #[.agg #[.int .i64 l[k].1, .int .i64 l[k].2]] W fun e w' => e = .returned (.bool (okI l[k])) ∧ Below W.heap.size W w' := fun W => one_any l[k] W
      have HB1 : Hid (okI l[k] = false → P [] 2) := fun h => HBAD.out (HO2.out k hkz h)
      have HB2 : Hid (okI l[k] = true → ∀ x ∈ l.take (k + 1), okI x = true) := fun h s hs => by
        rw [List.take_succ_eq_append_getElem hkz] at hs
        rcases List.mem_append.1 hs with hs | hs
        · exact HG.out s hs
        · rw [List.mem_singleton.1 hs]; exact h
      generalize okI l[k] = B1 at c1 HB1 HB2
      obtain ⟨x, hx⟩ : ∃ x : Iv, x = l[k] := ⟨_, rfl⟩
      rw [← hx] at a0 a1 c1
      obtain ⟨x1, x2⟩ := x
      clear hx hg1 HG
      simp only at a0 a1 c1
      go_upto_region 6 with fail
      obtain ⟨X, hX⟩ : ∃ X, X = wr.alloc (.cells #[.int .i64 x1, .int .i64 x2] 36) := ⟨_, rfl⟩
      have hbX : Below wr.heap.size wr X := by rw [hX]; exact below_new (Below.refl _ _) _
      have rk : RowAt X wr.heap.size [.int .i64 x1, .int .i64 x2] 36 := by rw [hX]; exact RowAt.new _ _ _
      rw [← hX]
      have hBX := below2 hB hbX
      clear hX hbX a0 a1 hB
      obtain ⟨gs, hgs⟩ : ∃ g, g = wr.heap.size := ⟨_, rfl⟩
      rw [← hgs] at rk ⊢
      clear hgs
      obtain ⟨y0, y1, yf⟩ := cells2 rk
      go_wp2_with fail
      go_at_call 37; refine (c1 _).mono ?_; rintro e w2 ⟨rfl, hb⟩
      replace hBX := below2 hBX hb
      clear y0 y1 yf hb c1 rk
      cases B1
      · have HV : Hid (P [] 2) := HB1.out rfl
        clear HB1 HB2
        go_wp2_with fail
        go_ret2
        exact ⟨_, [], 2, rfl, hasI_nil _, hBX, HV.out⟩
      · have HV : Hid (∀ x ∈ l.take (k + 1), okI x = true) := HB2.out rfl
        clear HB1 HB2
        go_wp2_with fail
        go_roundw
        case rel => exact ⟨k + 1, by omega, by go_num, hBX, HV⟩
        case measure => simp [Go.RowKit.intOf]; omega
    · have hkn : decide ((k : Int) < (n : Int)) = false := decide_eq_false (by omega)
      have hall : l.all okI = true := List.all_eq_true.2 (by have h0 := HG.out; rw [List.take_of_length_le (by have := HN.out; omega)] at h0; exact h0)
      have cr := HROW.out hall wr hB
      have HG2 : Hid (∀ R, Row true R → Tms R → (∀ x, inB R x = fnH 0 (l.map toS) [] x) → P R 0) := HGOOD.out hall
      clear HG hall HROW HGOOD
      go_wp2_with fail
      go_at_call 38; refine cr.mono ?_; rintro e w4 ⟨u, R, rfl, hO, hbl, h1, h2, h3, h4⟩
      have HA : Hid (PostI w P (.returned (.tuple #[u, .int .i64 0])) w4) := ⟨u, R, 0, rfl, hO, below2 hB hbl, HG2.out R h1 h2 h3⟩
      clear cr h1 h2 h3 hO
      go_wp2_with fail
      go_ret2
      exact HA.out
end Go.Proofs.Ytebjklhffccomaa.Iv
namespace Go.Proofs.Ytebjklhffccomaa.Iv
open Go.RowKit Go.Shelf
open Go.Proofs.Ytebjklhffccomaa.Lk (HasRow hasRow_own addr_add)
def fewB (n : Nat) : Bool := !(decide (60 < n) && decide (n ≤ 1024))
theorem few_cases (n : Nat) : (n ≤ 60 ∧ fewB n = true) ∨ (60 < n ∧ n ≤ 1024 ∧ fewB n = false) ∨ (1024 < n ∧ fewB n = true) := by
  unfold fewB
  rcases Nat.lt_or_ge 60 n with h | h
  · rcases Nat.lt_or_ge 1024 n with h2 | h2
    · exact .inr (.inr ⟨h2, by rw [decide_eq_false (by omega : ¬ n ≤ 1024), Bool.and_false]; rfl⟩)
    · exact .inr (.inl ⟨h, h2, by rw [decide_eq_true h, decide_eq_true h2]; rfl⟩)
  · exact .inl ⟨h, by rw [decide_eq_false (by omega : ¬ 60 < n)]; rfl⟩
set_option maxHeartbeats 4000000 in
set_option maxRecDepth 20000 in
theorem few1_any (n b c : Nat) (o : Option Addr) (w : World) (h0 : w.cell? ⟨b, 0, none⟩ = some (.slice o n c)) :
    Calls Try.prog 9 #[.slice (some ⟨b, 0, none⟩) 1 1] w fun e w' => e = .returned (.bool (fewB n)) ∧ Below w.heap.size w w' := by
  rcases few_cases n with ⟨h1, h2⟩ | ⟨h1, h1b, h2⟩ | ⟨h1, h2⟩ <;> rw [h2] <;> clear h2
  · have hq1 : decide ((60 : Int) < (n : Int)) = false := decide_eq_false (by omega)
    have hq2 : decide (60 < n) = false := decide_eq_false (by omega)
    go_enter Try.func9, Try.ntmps9
    go_wp2_with fail
    refine wp_loop_rounds 2 ?_
    rw [rounds_succ]
    go_wp2_with fail
    rw [rounds_succ]
    go_wp2_with fail
    go_ret
    exact ⟨rfl, Below.refl _ _⟩
  · have hq1 : decide ((60 : Int) < (n : Int)) = true := decide_eq_true (by omega)
    have hq2 : decide (60 < n) = true := decide_eq_true (by omega)
    have hq3 : decide ((n : Int) ≤ 1024) = true := decide_eq_true (by omega)
    have hq4 : decide (n ≤ 1024) = true := decide_eq_true (by omega)
    go_enter Try.func9, Try.ntmps9
    go_wp2_with fail
    refine wp_loop_rounds 2 ?_
    rw [rounds_succ]
    go_wp2_with fail
    go_ret
    exact ⟨rfl, Below.refl _ _⟩
  · have hq1 : decide ((60 : Int) < (n : Int)) = true := decide_eq_true (by omega)
    have hq2 : decide (60 < n) = true := decide_eq_true (by omega)
    have hq3 : decide ((n : Int) ≤ 1024) = false := decide_eq_false (by omega)
    have hq4 : decide (n ≤ 1024) = false := decide_eq_false (by omega)
    go_enter Try.func9, Try.ntmps9
    go_wp2_with fail
    refine wp_loop_rounds 2 ?_
    rw [rounds_succ]
    go_wp2_with fail
    rw [rounds_succ]
    go_wp2_with fail
    go_ret
    exact ⟨rfl, Below.refl _ _⟩
set_option maxHeartbeats 4000000 in
set_option maxRecDepth 20000 in
theorem few2_any (n m b c1 c2 : Nat) (o1 o2 : Option Addr) (w : World) (h0 : w.cell? ⟨b, 0, none⟩ = some (.slice o1 n c1)) (h1 : w.cell? ⟨b, 1, none⟩ = some (.slice o2 m c2)) :
    Calls Try.prog 9 #[.slice (some ⟨b, 0, none⟩) 2 2] w fun e w' => e = .returned (.bool (fewB n && fewB m)) ∧ Below w.heap.size w w' := by
  rcases few_cases n with ⟨n1, n2⟩ | ⟨n1, n1b, n2⟩ | ⟨n1, n2⟩ <;> rw [n2] <;> clear n2
  · have hqn1 : decide ((60 : Int) < (n : Int)) = false := decide_eq_false (by omega)
    have hqn2 : decide (60 < n) = false := decide_eq_false (by omega)
    rw [Bool.true_and]
    rcases few_cases m with ⟨m1, m2⟩ | ⟨m1, m1b, m2⟩ | ⟨m1, m2⟩ <;> rw [m2] <;> clear m2
    · have hqm1 : decide ((60 : Int) < (m : Int)) = false := decide_eq_false (by omega)
      have hqm2 : decide (60 < m) = false := decide_eq_false (by omega)
      go_enter Try.func9, Try.ntmps9
      go_wp2_with fail
      refine wp_loop_rounds 3 ?_
      rw [rounds_succ]
      go_wp2_with fail
      rw [rounds_succ]
      go_wp2_with fail
      rw [rounds_succ]
      go_wp2_with fail
      go_ret
      exact ⟨rfl, Below.refl _ _⟩
    · have hqm1 : decide ((60 : Int) < (m : Int)) = true := decide_eq_true (by omega)
      have hqm2 : decide (60 < m) = true := decide_eq_true (by omega)
      have hqm3 : decide ((m : Int) ≤ 1024) = true := decide_eq_true (by omega)
      have hqm4 : decide (m ≤ 1024) = true := decide_eq_true (by omega)
      go_enter Try.func9, Try.ntmps9
      go_wp2_with fail
      refine wp_loop_rounds 3 ?_
      rw [rounds_succ]
      go_wp2_with fail
      rw [rounds_succ]
      go_wp2_with fail
      go_ret
      exact ⟨rfl, Below.refl _ _⟩
    · have hqm1 : decide ((60 : Int) < (m : Int)) = true := decide_eq_true (by omega)
      have hqm2 : decide (60 < m) = true := decide_eq_true (by omega)
      have hqm3 : decide ((m : Int) ≤ 1024) = false := decide_eq_false (by omega)
      have hqm4 : decide (m ≤ 1024) = false := decide_eq_false (by omega)
      go_enter Try.func9, Try.ntmps9
      go_wp2_with fail
      refine wp_loop_rounds 3 ?_
      rw [rounds_succ]
      go_wp2_with fail
      rw [rounds_succ]
      go_wp2_with fail
      rw [rounds_succ]
      go_wp2_with fail
      go_ret
      exact ⟨rfl, Below.refl _ _⟩
  · have hqn1 : decide ((60 : Int) < (n : Int)) = true := decide_eq_true (by omega)
    have hqn2 : decide (60 < n) = true := decide_eq_true (by omega)
    have hqn3 : decide ((n : Int) ≤ 1024) = true := decide_eq_true (by omega)
    have hqn4 : decide (n ≤ 1024) = true := decide_eq_true (by omega)
    rw [Bool.false_and]
    go_enter Try.func9, Try.ntmps9
    go_wp2_with fail
    refine wp_loop_rounds 3 ?_
    rw [rounds_succ]
    go_wp2_with fail
    go_ret
    exact ⟨rfl, Below.refl _ _⟩
  · have hqn1 : decide ((60 : Int) < (n : Int)) = true := decide_eq_true (by omega)
    have hqn2 : decide (60 < n) = true := decide_eq_true (by omega)
    have hqn3 : decide ((n : Int) ≤ 1024) = false := decide_eq_false (by omega)
    have hqn4 : decide (n ≤ 1024) = false := decide_eq_false (by omega)
    rw [Bool.true_and]
    rcases few_cases m with ⟨m1, m2⟩ | ⟨m1, m1b, m2⟩ | ⟨m1, m2⟩ <;> rw [m2] <;> clear m2
    · have hqm1 : decide ((60 : Int) < (m : Int)) = false := decide_eq_false (by omega)
      have hqm2 : decide (60 < m) = false := decide_eq_false (by omega)
      go_enter Try.func9, Try.ntmps9
      go_wp2_with fail
      refine wp_loop_rounds 3 ?_
      rw [rounds_succ]
      go_wp2_with fail
      rw [rounds_succ]
      go_wp2_with fail
      rw [rounds_succ]
      go_wp2_with fail
      go_ret
      exact ⟨rfl, Below.refl _ _⟩
    · have hqm1 : decide ((60 : Int) < (m : Int)) = true := decide_eq_true (by omega)
      have hqm2 : decide (60 < m) = true := decide_eq_true (by omega)
      have hqm3 : decide ((m : Int) ≤ 1024) = true := decide_eq_true (by omega)
      have hqm4 : decide (m ≤ 1024) = true := decide_eq_true (by omega)
      go_enter Try.func9, Try.ntmps9
      go_wp2_with fail
      refine wp_loop_rounds 3 ?_
      rw [rounds_succ]
      go_wp2_with fail
      rw [rounds_succ]
      go_wp2_with fail
      go_ret
      exact ⟨rfl, Below.refl _ _⟩
    · have hqm1 : decide ((60 : Int) < (m : Int)) = true := decide_eq_true (by omega)
      have hqm2 : decide (60 < m) = true := decide_eq_true (by omega)
      have hqm3 : decide ((m : Int) ≤ 1024) = false := decide_eq_false (by omega)
      have hqm4 : decide (m ≤ 1024) = false := decide_eq_false (by omega)
      go_enter Try.func9, Try.ntmps9
      go_wp2_with fail
      refine wp_loop_rounds 3 ?_
      rw [rounds_succ]
      go_wp2_with fail
      rw [rounds_succ]
      go_wp2_with fail
      rw [rounds_succ]
      go_wp2_with fail
      go_ret
      exact ⟨rfl, Below.refl _ _⟩
end Go.Proofs.Ytebjklhffccomaa.Iv
