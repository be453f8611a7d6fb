/- The law's few: rows that are short, or longer than any right one. -/
import Derived.Test.YtmkbijnndbgjgaaLkClone
import Derived.Lib.Overlaps
import Derived.Lib.AppendZerosOnto
import Derived.Lib.SlBuf
import Derived.Test.YtmkbijnndbgjgaaCtComp
import Derived.Test.YtmkbijnndbgjgaaSpMath
import Derived.Test.YtmkbijnndbgjgaaIvZ1
import Derived.Test.YtmkbijnndbgjgaaAddrQuiet
import Derived.BigQuiet
import Derived.Test.YtmkbijnndbgjgaaIvBase
set_option linter.unusedVariables false
namespace Go.Proofs.Ytmkbijnndbgjgaa.Lk
open Go.RowKit
/-- copy, as one step of a region whose order is drawn -/
theorem copy_step {ops : Array Oper} {o : Oper} {a : Act} {w : World} {K : Act → World → Prop} {Q : Exit → Act → World → Prop} {E : Prop} (hg : o.guard = none) (d s : Operand) (t t' : TypeId)
    (ho : o.op = .call { callee := .builtin .copy, args := #[d, s], argTypes := #[t, t'] }) {v u : Value} (hd : a.eval d = v) (hs : a.eval s = u) {v' : Value} {w' : World}
    (hr : (Builtin.copy_ #[t, t'] o.type #[v, u]).run Try.prog w = .ok v' w') (hK : K (a.put o.dst v') w') : if Region.wanted o (yielded ops a.tmps) = true then Oper.wp Try.prog o a w K Q else E := by
  rw [if_pos (by simp [Region.wanted, hg])]
  simp [Oper.wp, execOp, ho, resolve, invoke, builtin, hd, hs, hr, Result.andThen]
  exact hK
/-- a row that is copied into a row that is owned -/
theorem own_copy {e sz : Nat} {dT : TypeId} (hu : Try.prog.underlying dT = some (.slice e)) (hs : (Try.prog.info? e).map (·.size) = some sz) {W : World} {B g n cap : Nat} {xs : List Value} (h : W.ownsRow B e sz (.slice (some ⟨g, 0, none⟩) n cap) n xs)
    (o dLen dCap : Nat) (a : Addr) (sLen sCap k : Nat) (cs : List Value) (hk : Nat.min sLen dLen = k) (hl : cs.length = k * sz) (hok : o * sz + k * sz ≤ n * sz) (hsrc : ∀ j v, cs[j]? = some v → W.cell? (a.add j) = some v) (h1 : ∀ v ∈ cs, v.oneCell' = true) :
    ∃ W', (∀ sT ty, (Builtin.copy_ #[dT, sT] ty #[.slice (some ⟨g, o * sz, none⟩) dLen dCap, .slice (some a) sLen sCap]).run Try.prog W = .ok (goInt k) W') ∧ W'.ownsRow B e sz (.slice (some ⟨g, 0, none⟩) n cap) n (xs.take (o * sz) ++ cs ++ xs.drop (o * sz + k * sz)) ∧ W.grownBy W' (some g) := by
  rcases h.2 with ⟨e0, _⟩ | ⟨g', cap', cur, e1, hg, hgb, hnc, hcm, hcs, htk⟩
  · cases e0
  · injection e1 with e1 _ e3
    injection e1 with e1
    injection e1 with e1
    subst e1 e3
    have hnn : n * sz ≤ cur.size := by rw [hcs]; exact Nat.mul_le_mul_right _ hnc
    have hld := run_loadCells_list (P := Try.prog) W a cs hsrc
    have hst := run_storeCells_at Try.prog g (o * sz) e cs 0 cur W hgb (by omega) h1
    refine ⟨W.setRow g (cur.toList.take (o * sz) ++ cs ++ cur.toList.drop (o * sz + cs.length)).toArray, fun sT ty => ?_, ?_, ?_⟩
    · cases hq : Try.prog.info? e with
      | none => simp [hq] at hs
      | some i =>
        have hi : i.size = sz := by simpa [hq] using hs
        rw [hl] at hld
        simp only [Nat.add_zero] at hst
        simp [Builtin.copy_, run_underlying hu, Builtin.lenOf, Builtin.firstCells, sizeOf, typeInfo, hq, hi, hk, hld, hst]
    · refine ⟨?_, .inr ⟨g, cap, _, rfl, hg, setRow_heap W g cur _ e _ hgb, hnc, hcm, ?_, ?_⟩⟩
      · have := h.1
        simp only [List.length_append, List.length_take, List.length_drop]
        omega
      · simp only [List.size_toArray, List.length_append, List.length_take, List.length_drop, Array.length_toList]
        omega
      · rw [← htk]
        simp only [List.take_append, List.length_append, List.length_take, Array.length_toList, List.take_take, List.drop_take]
        rw [Nat.min_eq_left (show o * sz ≤ cur.size by omega), Nat.min_eq_right (show o * sz ≤ n * sz by omega), Nat.min_eq_left (show o * sz ≤ n * sz by omega), List.take_of_length_le (show cs.length ≤ n * sz - o * sz by omega), hl]
    · exact ⟨rfl, rfl, rfl, by simp [World.setRow], fun k _ hk => by simp only [World.setRow]; rw [Array.getElem?_modify]; split; (rename_i h0; exact absurd (by rw [h0]) hk); rfl⟩
end Go.Proofs.Ytmkbijnndbgjgaa.Lk
namespace Go.Proofs.Ytmkbijnndbgjgaa.Ct
open Go.RowKit
open Go.Proofs.Ytmkbijnndbgjgaa.Addr (hiN loN adV RowAt below2 below_drew below_new bset RowAt.lt RowAt.cell RowAt.frozen RowAt.below RowAt.drew RowAt.new RowAt.alloc cells2 RowAt.gkeep)
open Go.Proofs.Ytmkbijnndbgjgaa.Lk (hasRow_own append_row own_copy addr_add)
attribute [-go_sem] Builtin.append_
theorem size_ad : (Try.prog.info? 95).map (·.size) = some 2 := by kernel_rfl
theorem lit_one (W : World) (a : Nat) : HasAds (W.alloc (.cells #[.int .u64 (hiN a : Int), .int .u64 (loN a : Int)] 95)) (.slice (some ⟨W.heap.size, 0, none⟩) 1 1) [a] :=
  hasRow_own (World.ownsRow_lit (base := W.heap.size) W #[.int .u64 (hiN a : Int), .int .u64 (loN a : Int)] 1 (Nat.le_refl _) (by decide) rfl)
theorem insN_at {o : List Nat} (hu : Up o) (p i : Nat) (hi : i ≤ o.length) (h1 : ∀ j (h : j < o.length), i ≤ j → p < o[j]) (h2 : ∀ j (h : j < o.length), j < i → o[j] < p) : insN o p = o.take i ++ p :: o.drop i := by
  have hd : ∀ x ∈ o.drop i, p < x := fun x hx => by
    obtain ⟨j, hj, rfl⟩ := List.getElem_of_mem hx
    rw [List.length_drop] at hj
    rw [List.getElem_drop]
    exact h1 _ (by omega) (by omega)
  have ht : ∀ x ∈ o.take i, x < p := fun x hx => by
    obtain ⟨j, hj, rfl⟩ := List.getElem_of_mem hx
    rw [List.length_take] at hj
    rw [List.getElem_take]
    exact h2 _ (by omega) (by omega)
  refine ext_up _ _ (up_insN hu p) ?_ (fun z => ?_)
  · refine List.pairwise_append.2 ⟨hu.sublist (List.take_sublist _ _), List.pairwise_cons.2 ⟨hd, hu.sublist (List.drop_sublist _ _)⟩, fun a ha b hb => ?_⟩
    rcases List.mem_cons.1 hb with rfl | hb
    · exact ht a ha
    · exact Nat.lt_trans (ht a ha) (hd b hb)
  · rw [mem_insN]
    conv => lhs; rw [show (z ∈ o) = (z ∈ o.take i ++ o.drop i) by rw [List.take_append_drop]]
    simp only [List.mem_append, List.mem_cons]
    constructor
    · rintro (h | h | h)
      · exact .inr (.inl h)
      · exact .inl h
      · exact .inr (.inr h)
    · rintro (h | h | h)
      · exact .inr (.inl h)
      · exact .inl h
      · exact .inr (.inr h)
theorem insN_in {o : List Nat} (hu : Up o) {p : Nat} (h : p ∈ o) : insN o p = o := ext_up _ _ (up_insN hu p) hu (fun z => by
  rw [mem_insN]
  exact ⟨fun hz => by rcases hz with rfl | hz; exact h; exact hz, fun hz => .inr hz⟩)
theorem sortN_snoc (l : List Nat) (k : Nat) (h : k < l.length) : sortN (l.take (k + 1)) = insN (sortN (l.take k)) l[k] := by
  unfold sortN
  rw [List.take_succ_eq_append_getElem h, List.foldl_append]
  rfl
theorem sortN_len (l : List Nat) : (sortN l).length ≤ l.length := by
  have key : ∀ (m l : List Nat), Up m → (∀ x ∈ m, x ∈ l) → m.length ≤ l.length := by
    intro m
    induction m with
    | nil => intro l _ _; exact Nat.zero_le _
    | cons y m ih =>
      intro l hu h
      have hp := List.pairwise_cons.1 hu
      have hy := h y List.mem_cons_self
      have h1 := ih (l.erase y) hp.2 (fun x hx => (List.mem_erase_of_ne (by have := hp.1 x hx; omega)).2 (h x (List.mem_cons_of_mem _ hx)))
      have h2 := List.length_erase_of_mem hy
      have h3 := List.length_pos_of_mem hy
      rw [List.length_cons]
      omega
  exact key _ _ (up_sortN l) (fun x hx => (mem_sortN _ _).1 hx)
end Go.Proofs.Ytmkbijnndbgjgaa.Ct
namespace Go.Proofs.Ytmkbijnndbgjgaa.Sp
open Go.Proofs.Ytmkbijnndbgjgaa.Addr (wideN rightB)
/-- where a span begins, and where another address follows on it -/
def plc1 (six : Bool) (s : Sp) : List Nat := s.1 :: (if s.2 < topN six then [s.2 + 1] else [])
def plc (six : Bool) (l : List Sp) : List Nat := l.flatMap (plc1 six)
theorem mem_plc {six : Bool} {l : List Sp} {x : Nat} : x ∈ plc six l ↔ ∃ s ∈ l, x = s.1 ∨ (s.2 < topN six ∧ x = s.2 + 1) := by
  unfold plc plc1
  rw [List.mem_flatMap]
  constructor
  · rintro ⟨s, hs, h⟩
    refine ⟨s, hs, ?_⟩
    rcases List.mem_cons.1 h with h | h
    · exact .inl h
    · split at h
      · exact .inr ⟨by assumption, List.mem_singleton.1 h⟩
      · cases h
  · rintro ⟨s, hs, h⟩
    refine ⟨s, hs, ?_⟩
    rcases h with h | ⟨h1, h2⟩
    · rw [h]; exact List.mem_cons_self
    · rw [if_pos h1, h2]; simp
theorem plc_app (six : Bool) (a b : List Sp) : plc six (a ++ b) = plc six a ++ plc six b := by unfold plc; rw [List.flatMap_append]
theorem plc_top {six : Bool} {l : List Sp} (hl : ∀ s ∈ l, okS six s = true) {x : Nat} (h : x ∈ plc six l) : x ≤ topN six := by
  obtain ⟨s, hs, h⟩ := mem_plc.1 h
  have := okS_iff.1 (hl s hs)
  rcases h with h | ⟨h1, h2⟩ <;> omega
/-- the places of two rows, in order, each once -/
def Plcs (six : Bool) (a b : List Sp) (P : List Nat) : Prop := P.Pairwise (· < ·) ∧ ∀ x, x ∈ P ↔ (x = 0 ∨ x ∈ plc six a ∨ x ∈ plc six b)
/-- between two places a row does not turn -/
theorem in_const {six : Bool} {l : List Sp} {p x : Nat} (hl : ∀ s ∈ l, okS six s = true) (hx : x ≤ topN six) (hp : p ≤ x) (hno : ∀ y ∈ plc six l, y ≤ x → y ≤ p) : inB l x = inB l p := by
  rw [Bool.eq_iff_iff, inB_iff, inB_iff]
  constructor
  · rintro ⟨s, hs, h1, h2⟩
    have := hno s.1 (mem_plc.2 ⟨s, hs, .inl rfl⟩) h1
    exact ⟨s, hs, this, by omega⟩
  · rintro ⟨s, hs, h1, h2⟩
    refine ⟨s, hs, by omega, ?_⟩
    apply Classical.byContradiction
    intro hn
    have := hno (s.2 + 1) (mem_plc.2 ⟨s, hs, .inr ⟨by omega, rfl⟩⟩) (by omega)
    omega
/-- what the document's row holds ahead of a place: all members below it, the last span open or not -/
def RwI (six : Bool) (f : Nat → Bool) (out : List Sp) (o : Bool) (p : Nat) : Prop :=
  (o = false → (p = 0 ∨ f (p - 1) = false) ∧ Row six out ∧ ∀ x, inB out x = true ↔ (f x = true ∧ x < p)) ∧
  (o = true → ∃ a q, out = a ++ [(q, 0)] ∧ q < p ∧ (∀ x, q ≤ x → x < p → f x = true) ∧ Row six a ∧ (∀ x, inB a x = true ↔ (f x = true ∧ x < q)) ∧ ∀ s ∈ a, s.2 + 1 < q)
theorem rw_start (six : Bool) (f : Nat → Bool) : RwI six f [] false 0 :=
  ⟨fun _ => ⟨.inl rfl, row_nil six, fun x => ⟨fun h => (by cases h), fun h => (by omega)⟩⟩, fun h => (by cases h)⟩
theorem rw_shift {six : Bool} {f : Nat → Bool} {out : List Sp} {p p2 : Nat} (h2 : Row six out) (h3 : ∀ x, inB out x = true ↔ (f x = true ∧ x < p)) (hp : p < p2) (hc : ∀ x, p ≤ x → x < p2 → f x = f p) (hf : f p = false) : RwI six f out false p2 := by
  refine ⟨fun _ => ⟨.inr (by rw [hc _ (by omega) (by omega)]; exact hf), h2, fun x => ?_⟩, fun h => (by cases h)⟩
  rw [h3]
  constructor
  · rintro ⟨a, b⟩; exact ⟨a, by omega⟩
  · rintro ⟨a, b⟩
    refine ⟨a, ?_⟩
    apply Classical.byContradiction
    intro hn
    rw [hc x (by omega) b, hf] at a
    cases a
theorem rw_skip {six : Bool} {f : Nat → Bool} {out : List Sp} {p p2 : Nat} (h : RwI six f out false p) (hp : p < p2) (hc : ∀ x, p ≤ x → x < p2 → f x = f p) (hf : f p = false) : RwI six f out false p2 :=
  rw_shift (h.1 rfl).2.1 (h.1 rfl).2.2 hp hc hf
theorem rw_open {six : Bool} {f : Nat → Bool} {out : List Sp} {p p2 : Nat} (h : RwI six f out false p) (hp : p < p2) (hc : ∀ x, p ≤ x → x < p2 → f x = f p) (hf : f p = true) : RwI six f (out ++ [(p, 0)]) true p2 := by
  obtain ⟨h1, h2, h3⟩ := h.1 rfl
  refine ⟨fun h => (by cases h), fun _ => ⟨out, p, rfl, hp, fun x hx hx2 => by rw [hc x hx hx2]; exact hf, h2, h3, fun s hs => ?_⟩⟩
  have hok := okS_iff.1 (h2.1 s hs)
  have hm := (h3 s.2).1 (inB_iff.2 ⟨s, hs, hok.1, by omega⟩)
  rcases h1 with h1 | h1
  · omega
  · apply Classical.byContradiction
    intro hn
    have : s.2 = p - 1 := by omega
    rw [this, h1] at hm
    cases hm.1
theorem rw_keep {six : Bool} {f : Nat → Bool} {out : List Sp} {p p2 : Nat} (h : RwI six f out true p) (hp : p < p2) (hc : ∀ x, p ≤ x → x < p2 → f x = f p) (hf : f p = true) : RwI six f out true p2 := by
  obtain ⟨a, q, e, h1, h2, h3⟩ := h.2 rfl
  refine ⟨fun h => (by cases h), fun _ => ⟨a, q, e, by omega, fun x hx hx2 => ?_, h3⟩⟩
  by_cases hl : x < p
  · exact h2 x hx hl
  · rw [hc x (by omega) hx2]; exact hf
theorem rw_last {six : Bool} {f : Nat → Bool} {a : List Sp} {p q : Nat} (h1 : q < p) (h2 : ∀ x, q ≤ x → x < p → f x = true) (h3 : Row six a) (h4 : ∀ x, inB a x = true ↔ (f x = true ∧ x < q)) (h5 : ∀ s ∈ a, s.2 + 1 < q) (ht : p ≤ topN six + 1) :
    Row six (a ++ [(q, p - 1)]) ∧ ∀ x, inB (a ++ [(q, p - 1)]) x = true ↔ (f x = true ∧ x < p) := by
  refine ⟨row_app h3 (okS_iff.2 ⟨by show q ≤ p - 1; omega, by show p - 1 ≤ _; omega⟩) h5, fun x => ?_⟩
  rw [inB_app, inB_one, Bool.or_eq_true, h4, hasS_iff]
  constructor
  · rintro (⟨u, v⟩ | ⟨u, v⟩)
    · exact ⟨u, by omega⟩
    · have u2 : q ≤ x := u
      have v2 : x ≤ p - 1 := v
      exact ⟨h2 x u2 (by omega), by omega⟩
  · rintro ⟨u, v⟩
    by_cases hl : x < q
    · exact .inl ⟨u, hl⟩
    · exact .inr ⟨by show q ≤ x; omega, by show x ≤ p - 1; omega⟩
theorem rw_shut {six : Bool} {f : Nat → Bool} {a : List Sp} {q p p2 : Nat} (h : RwI six f (a ++ [(q, 0)]) true p) (hp : p < p2) (hc : ∀ x, p ≤ x → x < p2 → f x = f p) (hf : f p = false) (ht : p ≤ topN six) : RwI six f (a ++ [(q, p - 1)]) false p2 := by
  obtain ⟨a2, q2, e, h1, h2, h3, h4, h5⟩ := h.2 rfl
  obtain ⟨e1, e2⟩ := List.append_inj' e rfl
  have e3 : q = q2 := by injection e2 with e2; injection e2
  subst e1 e3
  obtain ⟨r1, r2⟩ := rw_last h1 h2 h3 h4 h5 (by omega)
  exact rw_shift r1 r2 hp hc hf
theorem rw_end0 {six : Bool} {f : Nat → Bool} {out : List Sp} (h : RwI six f out false (topN six + 1)) : Row six out ∧ ∀ x, inB out x = true ↔ (f x = true ∧ x ≤ topN six) := by
  obtain ⟨_, h2, h3⟩ := h.1 rfl
  exact ⟨h2, fun x => by rw [h3, Nat.lt_succ_iff]⟩
theorem rw_end1 {six : Bool} {f : Nat → Bool} {a : List Sp} {q : Nat} (h : RwI six f (a ++ [(q, 0)]) true (topN six + 1)) : Row six (a ++ [(q, topN six)]) ∧ ∀ x, inB (a ++ [(q, topN six)]) x = true ↔ (f x = true ∧ x ≤ topN six) := by
  obtain ⟨a2, q2, e, h1, h2, h3, h4, h5⟩ := h.2 rfl
  obtain ⟨e1, e2⟩ := List.append_inj' e rfl
  have e3 : q = q2 := by injection e2 with e2; injection e2
  subst e1 e3
  obtain ⟨r1, r2⟩ := rw_last h1 h2 h3 h4 h5 (by omega)
  exact ⟨r1, fun x => by rw [← Nat.lt_succ_iff]; exact r2 x⟩
/-- an open row ends with the span that is not shut yet -/
theorem rw_tail {six : Bool} {f : Nat → Bool} {out : List Sp} {p : Nat} (h : RwI six f out true p) : ∃ a q, out = a ++ [(q, 0)] := by
  obtain ⟨a, q, e, _⟩ := h.2 rfl
  exact ⟨a, q, e⟩
/-- the place behind a place, or what follows on the last address -/
def nxt (six : Bool) (P : List Nat) (k : Nat) : Nat := P.getD k (topN six + 1)
theorem nxt_at {six : Bool} {P : List Nat} {k : Nat} (h : k < P.length) : nxt six P k = P[k] := by unfold nxt; simp [List.getD_eq_getElem?_getD, List.getElem?_eq_getElem h]
theorem nxt_end {six : Bool} {P : List Nat} : nxt six P P.length = topN six + 1 := by unfold nxt; simp [List.getD_eq_getElem?_getD]
theorem plcs_first {six : Bool} {a b : List Sp} {P : List Nat} (h : Plcs six a b P) : ∃ h0 : 0 < P.length, P[0] = 0 := by
  obtain ⟨i, hi, e⟩ := List.getElem_of_mem ((h.2 0).2 (.inl rfl))
  refine ⟨by omega, ?_⟩
  by_cases hz : i = 0
  · subst hz; exact e
  · have := List.pairwise_iff_getElem.1 h.1 0 i (by omega) hi (by omega)
    omega
theorem plcs_le {six : Bool} {a b : List Sp} {P : List Nat} (h : Plcs six a b P) (ha : ∀ s ∈ a, okS six s = true) (hb : ∀ s ∈ b, okS six s = true) {k : Nat} (hk : k < P.length) : P[k] ≤ topN six := by
  rcases (h.2 _).1 (List.getElem_mem hk) with e | e | e
  · omega
  · exact plc_top ha e
  · exact plc_top hb e
theorem plcs_step {six : Bool} {a b : List Sp} {P : List Nat} (h : Plcs six a b P) (ha : ∀ s ∈ a, okS six s = true) (hb : ∀ s ∈ b, okS six s = true) {k : Nat} (hk : k < P.length) :
    P[k] < nxt six P (k + 1) ∧ nxt six P (k + 1) ≤ topN six + 1 ∧ ∀ x, P[k] ≤ x → x < nxt six P (k + 1) → inB a x = inB a P[k] ∧ inB b x = inB b P[k] := by
  have hle := plcs_le h ha hb hk
  have hnx : P[k] < nxt six P (k + 1) ∧ nxt six P (k + 1) ≤ topN six + 1 := by
    by_cases hk1 : k + 1 < P.length
    · rw [nxt_at hk1]
      have := plcs_le h ha hb hk1
      exact ⟨List.pairwise_iff_getElem.1 h.1 k (k + 1) hk hk1 (by omega), by omega⟩
    · have e : k + 1 = P.length := by omega
      rw [e, nxt_end]; omega
  refine ⟨hnx.1, hnx.2, fun x h1 h2 => ?_⟩
  have hno : ∀ y ∈ P, y ≤ x → y ≤ P[k] := fun y hy hyx => by
    obtain ⟨i, hi, e⟩ := List.getElem_of_mem hy
    by_cases hik : i ≤ k
    · by_cases he : i = k
      · subst he; omega
      · have := List.pairwise_iff_getElem.1 h.1 i k hi hk (by omega)
        omega
    · exfalso
      have hk1 : k + 1 < P.length := by omega
      rw [nxt_at hk1] at h2
      by_cases he : i = k + 1
      · subst he; omega
      · have := List.pairwise_iff_getElem.1 h.1 (k + 1) i hk1 hi (by omega)
        omega
  exact ⟨in_const ha (by omega) h1 (fun y hy hyx => hno y ((h.2 y).2 (.inr (.inl hy))) hyx), in_const hb (by omega) h1 (fun y hy hyx => hno y ((h.2 y).2 (.inr (.inr hy))) hyx)⟩
end Go.Proofs.Ytmkbijnndbgjgaa.Sp
namespace Go.Proofs.Ytmkbijnndbgjgaa.Iv
open Go.RowKit Go.Shelf
open Go.Proofs.Ytmkbijnndbgjgaa.Lk (HasRow hasRow_own addr_add)
open Go.Proofs.Ytmkbijnndbgjgaa.Sp (Sp inB inB_iff Row rowB row_ext okS okS_iff okB okB_iff topN chk)
open Go.Proofs.Ytmkbijnndbgjgaa.Addr (RowAt below2 below_drew below_new bset RowAt.lt RowAt.cell RowAt.frozen RowAt.below RowAt.drew RowAt.new RowAt.alloc cells2 cells4 Bl bl_ne wp_region_bl bl_call)
theorem one_any (x : Iv) (w : World) : Calls Try.prog 34 #[.agg #[.int .i64 x.1, .int .i64 x.2]] w fun e w' => e = .returned (.bool (okI x)) ∧ Below w.heap.size w w' := by
  have h0 : okI x = (decide (0 ≤ x.1) && (decide (x.1 ≤ x.2) && decide (x.2 ≤ 1099511627776))) := rfl
  obtain ⟨a, b⟩ := x
  simp only at h0 ⊢
  obtain ⟨X, hX⟩ : ∃ X, X = w.alloc (.cells #[.int .i64 a, .int .i64 b] 23) := ⟨_, rfl⟩
  have hB : Below w.heap.size w X := by rw [hX]; exact below_new (Below.refl _ _) _
  have rs : RowAt X w.heap.size [.int .i64 a, .int .i64 b] 23 := by rw [hX]; exact RowAt.new _ _ _
  obtain ⟨s0, s1, sf⟩ := cells2 rs
  generalize okI (a, b) = R at *
  go_enter Try.func34, Try.ntmps34
  go_upto_region 1 with fail
  rw [← hX]
  clear hX
  by_cases h1 : 0 ≤ a
  · rw [decide_eq_true h1] at h0
    have d1 : decide (0 ≤ a) = true := decide_eq_true h1
    by_cases h2 : a ≤ b
    · rw [decide_eq_true h2] at h0
      have d2 : decide (a ≤ b) = true := decide_eq_true h2
      by_cases h3 : b ≤ 1099511627776
      · rw [decide_eq_true h3] at h0
        have d3 : decide (b ≤ 1099511627776) = true := decide_eq_true h3
        subst h0
        go_wp2_with fail
        go_ret
        exact ⟨rfl, hB⟩
      · rw [decide_eq_false h3] at h0
        have d3 : decide (b ≤ 1099511627776) = false := decide_eq_false h3
        subst h0
        go_wp2_with fail
        go_ret
        exact ⟨rfl, hB⟩
    · rw [decide_eq_false h2] at h0
      have d2 : decide (a ≤ b) = false := decide_eq_false h2
      subst h0
      go_wp2_with fail
      go_ret
      exact ⟨rfl, hB⟩
  · rw [decide_eq_false h1] at h0
    have d1 : decide (0 ≤ a) = false := decide_eq_false h1
    subst h0
    go_wp2_with fail
    go_ret
    exact ⟨rfl, hB⟩
theorem inI_take {l : List Iv} {k : Nat} (hk : k < l.length) (t : Int) : inI (l.take (k + 1)) t = (inI (l.take k) t || (decide (l[k].1 ≤ t) && decide (t ≤ l[k].2))) := by
  rw [List.take_succ_eq_append_getElem hk, inI_app, inI_cons]
  show (_ || (_ || false)) = _
  rw [Bool.or_false]
theorem okJ_iff {l : List Iv} : okJ l = true ↔ l.length ≤ 1024 ∧ Up2 l := by
  constructor
  · exact fun h => ⟨okJ_len h, up2_of h⟩
  · rintro ⟨h1, h2⟩
    unfold okJ
    rw [h2.1, Bool.true_and]
    exact okB_iff.2 ⟨by rw [List.length_map]; exact h1, up2_row h2⟩
theorem up2_step {l : List Iv} {k : Nat} (hk : k < l.length) (h : Up2 (l.take k)) (h1 : okI l[k] = true) (h2 : ∀ (j : Nat) (hj : j < l.length), k = j + 1 → l[j].2 + 1 < l[k].1) : Up2 (l.take (k + 1)) := by
  rw [List.take_succ_eq_append_getElem hk]
  refine ⟨?_, List.pairwise_append.2 ⟨h.2, by simp, fun y hy z hz => ?_⟩⟩
  · rw [List.all_append, h.1, List.all_cons, h1]; rfl
  · rw [List.mem_singleton.1 hz]
    obtain ⟨i, hi, rfl⟩ := List.getElem_of_mem hy
    have hi2 : i < k := by rw [List.length_take] at hi; omega
    rw [List.getElem_take]
    have hk1 : k - 1 < l.length := by omega
    have hlast := h2 (k - 1) hk1 (by omega)
    by_cases e : i = k - 1
    · subst e; exact hlast
    · have hp := List.pairwise_iff_getElem.1 h.2 i (k - 1) hi (by rw [List.length_take]; omega) (by omega)
      rw [List.getElem_take, List.getElem_take] at hp
      have ho := okI_iff.1 (List.all_eq_true.1 h.1 l[k - 1] (List.mem_take_iff_getElem.2 ⟨k - 1, by omega, rfl⟩))
      omega
end Go.Proofs.Ytmkbijnndbgjgaa.Iv
namespace Go.Proofs.Ytmkbijnndbgjgaa.Iv
open Go.RowKit
open Go.Proofs.Ytmkbijnndbgjgaa.Lk (HasRow hasRow_own append_row own_copy addr_add)
open Go.Proofs.Ytmkbijnndbgjgaa.Sp (own_below)
open Go.Proofs.Ytmkbijnndbgjgaa.Ct (Up insN sortN up_sortN mem_sortN sortN_len sortN_snoc insN_at insN_in info_parts)
open Go.Proofs.Ytmkbijnndbgjgaa.Addr (RowAt below2 below_drew below_new bset RowAt.lt RowAt.cell RowAt.frozen RowAt.below RowAt.drew RowAt.new RowAt.alloc RowAt.gkeep)
attribute [-go_sem] Builtin.append_
theorem sizeT : (Try.prog.info? 2).map (·.size) = some 1 := by kernel_rfl
def zs (l : List Nat) : List Int := l.map (fun n : Nat => (n : Int))
theorem zs_len (l : List Nat) : (zs l).length = l.length := List.length_map _
theorem csT_one_at (l : List Int) (j : Nat) : (csT l)[j]? = l[j]?.map (fun x => Value.int .i64 x) := by
  induction l generalizing j with
  | nil => rfl
  | cons x l ih =>
    cases j with
    | zero => rfl
    | succ j => exact ih j
theorem csT_map (l : List Int) : csT l = l.map (fun x => Value.int .i64 x) := by
  induction l with
  | nil => rfl
  | cons x l ih => show _ :: csT l = _ :: _; rw [ih]
theorem put_tms {w0 W : World} {B : Nat} {u : Value} {O : List Int} (p : Int) (i : Nat) (hi : i ≤ O.length) (ho : W.ownsRow B 2 1 u O.length (csT O)) (hB : B ≤ W.heap.size) (hb0 : Below B w0 W) (hO : O.length ≤ 1000000) (hnil : O.length = 0 → u = .slice none 0 0) :
    ∃ g cap W2 W3, (∀ ty, (Builtin.append_ #[83, 83] ty #[u, .slice (some ⟨W.heap.size, 0, none⟩) 1 1]).run Try.prog (W.alloc (.cells #[.int .i64 0] 2)) = .ok (.slice (some ⟨g, 0, none⟩) (O.length + 1) cap) W2) ∧ O.length + 1 ≤ cap ∧ cap ≤ 9223372036854775807 ∧
      (∀ sT ty o0, (i < O.length → o0 = i + 1) → (Builtin.copy_ #[83, sT] ty #[.slice (some ⟨g, o0, none⟩) (O.length + 1 - (i + 1)) (cap - (i + 1)), .slice (some ⟨g, i, none⟩) (O.length + 1 - i) (cap - i)]).run Try.prog W2.drew = .ok (goInt (O.length - i : Nat)) W3) ∧
      (∃ z0, W3.cell? ⟨g, i, none⟩ = some z0) ∧ (∀ j, W3.frozen? ⟨g, j, none⟩ = false) ∧ (W3.setCell ⟨g, i, none⟩ (.int .i64 p)).ownsRow B 2 1 (.slice (some ⟨g, 0, none⟩) (O.length + 1) cap) (O.length + 1) (csT (O.take i ++ p :: O.drop i)) ∧
      B ≤ g ∧ Below B w0 W3 ∧ B ≤ W3.heap.size := by
  obtain ⟨V, hV⟩ : ∃ V, V = W.alloc (.cells #[.int .i64 0] 2) := ⟨_, rfl⟩
  have hbN : Below W.heap.size W V := by rw [hV]; exact below_new (Below.refl _ _) _
  have hlit : HasT V (.slice (some ⟨W.heap.size, 0, none⟩) 1 1) [0] := by rw [hV]; exact litT W 0 2
  have hB1 : B ≤ V.heap.size := Nat.le_trans hB hbN.size
  have hl1 : (csT O).length = O.length := by rw [csT_len]; omega
  obtain ⟨g, cap, W2, hrun, h1, h2, hnc, hcm, hgb⟩ : ∃ g cap W2, (∀ ty, (Builtin.append_ #[83, 83] ty #[u, .slice (some ⟨W.heap.size, 0, none⟩) 1 1]).run Try.prog V = .ok (.slice (some ⟨g, 0, none⟩) (O.length + 1) cap) W2) ∧ W2.ownsRow B 2 1 (.slice (some ⟨g, 0, none⟩) (O.length + 1) cap) (O.length + 1) (csT O ++ csT [0]) ∧ V.grownBy W2 u.ownBlock ∧ O.length + 1 ≤ cap ∧ cap ≤ 9223372036854775807 ∧ B ≤ g := by
    by_cases h0 : O.length = 0
    · have hu := hnil h0
      have hO0 : O = [] := List.eq_nil_of_length_eq_zero h0
      subst hu hO0
      obtain ⟨v', W2, hrun, h1, h2⟩ := append_row infoT Try.underlying83 rfl (by decide) (World.ownsRow_nil V V.heap.size 2 1) hlit (one_csT [0]) (by decide) (by decide) (Nat.le_refl _)
      rcases h1.2 with ⟨_, h0⟩ | ⟨g, cap, cur, rfl, hgb, hgc, hnc, hcm, hcs, htk⟩
      · exact absurd h0 (by decide)
      · exact ⟨g, cap, W2, hrun, ⟨h1.1, .inr ⟨g, cap, cur, rfl, Nat.le_trans hB1 hgb, hgc, hnc, hcm, hcs, htk⟩⟩, h2, hnc, by unfold maxLen at hcm; exact hcm, Nat.le_trans hB1 hgb⟩
    · obtain ⟨v', W2, hrun, h1, h2⟩ := append_row infoT Try.underlying83 rfl (by decide) (own_below ho hbN) hlit (one_csT [0]) (by simp only [List.length_cons, List.length_nil]; omega) (by simp only [List.length_cons, List.length_nil]; omega) hB1
      simp only [List.length_cons, List.length_nil, Nat.zero_add] at h1
      rcases h1.2 with ⟨_, h0⟩ | ⟨g, cap, cur, rfl, hgb, hgc, hnc, hcm, hcs, htk⟩
      · omega
      · exact ⟨g, cap, W2, hrun, h1, h2, hnc, by unfold maxLen at hcm; exact hcm, hgb⟩
  rw [hV] at hrun
  have hb2 : Below B w0 W2 := (hb0.trans (Below.mono hbN hB)).grown h2 hB1 (fun k e => (ho.lt k e).1)
  have hB2 : B ≤ W2.heap.size := Nat.le_trans hB1 h2.size
  obtain ⟨W3, hr3, h3, h4⟩ : ∃ W3, (∀ sT ty o0, (i < O.length → o0 = i + 1) → (Builtin.copy_ #[83, sT] ty #[.slice (some ⟨g, o0, none⟩) (O.length + 1 - (i + 1)) (cap - (i + 1)), .slice (some ⟨g, i, none⟩) (O.length + 1 - i) (cap - i)]).run Try.prog W2.drew = .ok (goInt (O.length - i : Nat)) W3) ∧ W3.ownsRow B 2 1 (.slice (some ⟨g, 0, none⟩) (O.length + 1) cap) (O.length + 1) ((csT O ++ csT [0]).take (i + 1) ++ (csT O).drop i) ∧ W2.drew.grownBy W3 (some g) := by
    have hl2 : (csT O ++ csT [0]).length = O.length + 1 := by rw [List.length_append, hl1]; rfl
    have hsrc : ∀ j v, ((csT O).drop i)[j]? = some v → W2.drew.cell? ((⟨g, i, none⟩ : Addr).add j) = some v := fun j v hj => by
      have hjl := (List.getElem?_eq_some_iff.1 hj).1
      rw [List.length_drop, hl1] at hjl
      rw [addr_add, show W2.drew.cell? ⟨g, i + j, none⟩ = W2.cell? ⟨g, i + j, none⟩ from rfl, h1.cellAt _ (by omega), List.getElem?_append_left (by omega), ← List.getElem?_drop]
      exact hj
    have h1d : W2.drew.ownsRow B 2 1 (.slice (some ⟨g, 0, none⟩) (O.length + 1) cap) (O.length + 1) (csT O ++ csT [0]) := h1
    have h1c : ∀ v ∈ (csT O).drop i, v.oneCell' = true := fun v hv => one_csT O v (List.mem_of_mem_drop hv)
    by_cases hio : i < O.length
    · obtain ⟨W3, r1, r2, r3⟩ := own_copy Try.underlying83 sizeT h1d (i + 1) (O.length + 1 - (i + 1)) (cap - (i + 1)) ⟨g, i, none⟩ (O.length + 1 - i) (cap - i) (O.length - i) ((csT O).drop i) (by simp only [Nat.min_def]; split <;> omega) (by rw [List.length_drop, hl1]; omega) (by omega) hsrc h1c
      simp only [Nat.mul_one] at r1 r2
      refine ⟨W3, fun sT ty o0 h0 => ?_, ?_, r3⟩
      · rw [h0 hio]
        exact r1 sT ty
      · rw [List.drop_of_length_le (l := csT O ++ csT [0]) (by omega), List.append_nil] at r2
        exact r2
    · have hie : i = O.length := by omega
      refine ⟨W2.drew, fun sT ty o0 _ => ?_, ?_, ⟨rfl, rfl, rfl, Nat.le_refl _, fun _ _ _ => rfl⟩⟩
      · obtain ⟨i0, hi0, hz0, hz1, hz2⟩ := info_parts infoT
        have hm1 : O.length - i = 0 := by omega
        have hld : (loadCells ⟨g, i, none⟩ 0).run Try.prog W2.drew = .ok #[] W2.drew := by simpa using run_loadCells_list (P := Try.prog) W2.drew ⟨g, i, none⟩ [] (by simp)
        simp [Builtin.copy_, run_underlying Try.underlying83, Builtin.lenOf, Builtin.firstCells, sizeOf, typeInfo, hi0, hm1, hld, storeCells]
      · rw [List.take_of_length_le (by omega), List.drop_of_length_le (by omega), List.append_nil]
        exact h1d
  have h5 := h3.stored i (.int .i64 p)
  have hfin : (((csT O ++ csT [0]).take (i + 1) ++ (csT O).drop i).set i (.int .i64 p)) = csT (O.take i ++ p :: O.drop i) := by
    rw [← csT_app, csT_map, csT_map, csT_map, ← List.map_take, ← List.map_drop, ← List.map_append, ← List.map_set]
    congr 1
    have e1 : (O ++ [0]).take (i + 1) = O.take i ++ ((O ++ [0]).drop i).take 1 := by
      rw [List.take_add, List.take_append_of_le_length (by omega)]
    have e2 : (((O ++ [0]).drop i).take 1).length = 1 := by rw [List.length_take, List.length_drop, List.length_append]; simp; omega
    obtain ⟨z, hz⟩ : ∃ z, ((O ++ [0]).drop i).take 1 = [z] := List.length_eq_one_iff.1 e2
    rw [e1, hz, List.append_assoc, List.set_append_right _ _ (by rw [List.length_take]; omega), List.length_take, Nat.min_eq_left (by omega), Nat.sub_self, List.singleton_append, List.set_cons_zero]
  rw [hfin] at h5
  refine ⟨g, cap, W2, W3, hrun, hnc, hcm, hr3, ?_, fun j => h3.frozenAt j, h5.1, hgb, ?_, ?_⟩
  · have k0 := h3.cellAt i (by omega)
    exact ⟨_, k0.trans (List.getElem?_eq_getElem (by rw [h3.1]; omega))⟩
  · exact (below_drew hb2).grown h4 hB2 (fun k e => by injection e with e; omega)
  · exact Nat.le_trans hB2 h4.size
def NilIf (n : Nat) (u : Value) : Prop := n = 0 → u = .slice none 0 0
theorem zs_cut (O : List Nat) (p i : Nat) : zs (O.take i ++ p :: O.drop i) = (zs O).take i ++ (p : Int) :: (zs O).drop i := by
  unfold zs
  rw [List.map_append, List.map_cons, List.map_take, List.map_drop]
def SO (w : World) (l : List Nat) (k : Nat) (u : Value) (wr : World) : Prop := wr.ownsRow w.heap.size 2 1 u (sortN (l.take k)).length (csT (zs (sortN (l.take k)))) ∧ Below w.heap.size w wr ∧ NilIf (sortN (l.take k)).length u
set_option maxHeartbeats 8000000 in
set_option maxRecDepth 20000 in
theorem rsorted_any (l : List Nat) (v : Value) (w : World) (hl : HasT w v (zs l)) (hlen : l.length ≤ 1000000) :
    Calls Try.prog 50 #[v] w fun e w' => ∃ u, e = .returned u ∧ HasT w' u (zs (sortN l)) ∧ Below w.heap.size w w' := by
  obtain ⟨o, c, rfl, hc1, hc2⟩ := HasRow.slice hl
  rw [zs_len] at hc1 hl ⊢
  have HR : Hid (∀ wr : World, Below w.heap.size w wr → HasT wr (.slice o l.length c) (zs l)) := fun wr hb => hl.keep hb
  obtain ⟨n, hn⟩ : ∃ n, n = l.length := ⟨_, rfl⟩
  have HN : Hid (n = l.length) := hn
  rw [← hn] at HR hc1 hlen ⊢
  have hni : (n : Int) ≤ 1000000 := by omega
  clear hl hn
  have H0 : Hid (SO w l 0 (.slice none 0 0) w) := ⟨by rw [List.take_zero]; exact World.ownsRow_nil w w.heap.size 2 1, Below.refl _ _, fun _ => rfl⟩
  go_enter Try.func50, Try.ntmps50
  go_wp2_with fail
  go_loopw [3, 9] (fun u q wr => ∃ k : Nat, k ≤ n ∧ q = .int .i64 k ∧ Hid (SO w l k u wr)) (fun _ q _ => n - (Go.RowKit.intOf q).toNat)
  case atStart => exact ⟨0, by omega, rfl, H0⟩
  case round =>
    obtain ⟨k, hk, rfl, HI⟩ := hrel
    clear H0
    by_cases hlt : k < n
    · have hkz : k < l.length := by rw [← HN.out]; exact hlt
      obtain ⟨g1, i1, rfl, hg1, a0⟩ := HasT.cell (HR.out _ HI.out.2.1) k (by rw [zs_len]; exact hkz)
      have e9 : (zs l)[k]'(by rw [zs_len]; exact hkz) = (l[k] : Int) := List.getElem_map _
      rw [e9] at a0
      have HS : Hid (sortN (l.take (k + 1)) = insN (sortN (l.take k)) l[k]) := sortN_snoc l k hkz
      have HU : Hid (Up (sortN (l.take k))) := up_sortN _
      have HL : Hid ((sortN (l.take k)).length ≤ 999999) := by
        have := sortN_len (l.take k)
        rw [List.length_take] at this
        show _ ≤ _
        omega
      have hki : (k : Int) < (n : Int) := by omega
      clear e9
      generalize l[k] = p at a0 HS
      have HTO : Hid (∀ u' wr', (wr'.ownsRow w.heap.size 2 1 u' (sortN (l.take (k + 1))).length (csT (zs (sortN (l.take (k + 1))))) ∧ Below w.heap.size w wr' ∧ NilIf (sortN (l.take (k + 1))).length u') → SO w l (k + 1) u' wr') := fun u' wr' h => h
      obtain ⟨hO, hbr, hnil⟩ : wr.ownsRow w.heap.size 2 1 u3 (sortN (l.take k)).length (csT (zs (sortN (l.take k)))) ∧ Below w.heap.size w wr ∧ NilIf (sortN (l.take k)).length u3 := HI.out
      generalize sortN (l.take k) = O at HS HU HL hO hnil
      clear HI hg1
      have hO2 : wr.ownsRow w.heap.size 2 1 u3 (zs O).length (csT (zs O)) := by rw [zs_len]; exact hO
      obtain ⟨o1, c1, rfl, hq1, hq2⟩ := HasRow.slice (hasRow_own hO2)
      rw [zs_len] at hO2 hq1 hnil ⊢
      have HNIL : Hid (NilIf O.length (.slice o1 O.length c1)) := hnil
      have HO : Hid (wr.ownsRow w.heap.size 2 1 (.slice o1 O.length c1) O.length (csT (zs O))) := hO2
      have hm := HL.out
      obtain ⟨m, hmd⟩ : ∃ m, m = O.length := ⟨_, rfl⟩
      have HM : Hid (m = O.length) := hmd
      have H1 : Hid (∀ j (h : j < O.length), m ≤ j → p < O[j]) := fun j h hj => by omega
      have hwB : w.heap.size ≤ wr.heap.size := hbr.size
      rw [← hmd] at hm hq1 ⊢
      have hmi : (m : Int) ≤ 999999 := by omega
      clear hO hO2 hmd hnil
      go_wp2_with fail
      clear a0
      obtain ⟨X, hX⟩ : ∃ X, X = wr := ⟨_, rfl⟩
      subst hX
      go_loopw [6] (fun q wr2 => ∃ i : Nat, i ≤ m ∧ q = .int .i64 i ∧ Hid (∀ j (h : j < O.length), i ≤ j → p < O[j]) ∧ wr2 = X) (fun q _ => (Go.RowKit.intOf q).toNat)
      case atStart => exact ⟨m, Nat.le_refl _, rfl, H1, rfl⟩
      case round =>
        obtain ⟨i, hi, rfl, HJ, rfl⟩ := hrel
        have hli : (i : Int) ≤ 999999 := by omega
        by_cases hi0 : 0 < i
        · obtain ⟨j, hj⟩ : ∃ j, i = j + 1 := ⟨i - 1, by omega⟩
          have hjO : j < O.length := by have := HM.out; omega
          obtain ⟨b2, i2, rfl, _, b0⟩ := HasT.cell (l := zs O) (show HasT wr (.slice o1 O.length c1) (zs O) from by have h8 := HO.out; rw [← zs_len] at h8 ⊢; exact hasRow_own h8) j (by rw [zs_len]; exact hjO)
          have e9 : (zs O)[j]'(by rw [zs_len]; exact hjO) = (O[j] : Int) := List.getElem_map _
          rw [e9] at b0
          clear e9
          have hip : (0 : Int) < (i : Int) := by omega
          have hip1 : decide ((0 : Int) < (i : Int)) = true := decide_eq_true hip
          have hip2 : decide (0 < i) = true := decide_eq_true hi0
          have hsub : (i : Int) - 1 = (j : Int) := by omega
          have hwj : IntKind.i64.wrap (j : Int) = (j : Int) := by rw [IntKind.wrap_i64]; omega
          have hlt1 : (j : Int) < (m : Int) := by omega
          generalize hq : O[j] = q at b0
          have HQ2 : Hid (∀ h : j < O.length, O[j] = q) := fun _ => hq
          have HIJ : Hid (i = j + 1) := hj
          clear hq hj hjO
          by_cases hpq : p < q
          · have hd1 : decide (p < q) = true := decide_eq_true hpq
            have hd2 : decide ((p : Int) < (q : Int)) = true := decide_eq_true (by omega)
            have HJ2 : Hid (∀ y (h : y < O.length), j ≤ y → p < O[y]) := fun y h hy => by
              by_cases e : y = j
              · subst e; rw [HQ2.out]; exact hpq
              · exact HJ.out y h (by have := HIJ.out; omega)
            clear HTO
            go_wp2_with fail
            go_roundw
            case rel => exact ⟨j, by have := HIJ.out; omega, by first | rfl | (rw [← hsub]) | go_num, HJ2, by first | trivial | rfl⟩
            case measure => have := HIJ.out; simp [Go.RowKit.intOf]; omega
          · have hd1 : decide (p < q) = false := decide_eq_false hpq
            have hd2 : decide ((p : Int) < (q : Int)) = false := decide_eq_false (by omega)
            by_cases hqp : q = p
            · have HF : Hid (SO w l (k + 1) (.slice (some ⟨b2, i2, none⟩) m c1) wr) := by
                have hmem : p ∈ O := by rw [← hqp, ← HQ2.out (by have := HIJ.out; have := HM.out; omega)]; exact List.getElem_mem _
                have e7 : sortN (l.take (k + 1)) = O := by rw [HS.out, insN_in HU.out hmem]
                refine HTO.out _ _ ?_
                rw [e7]
                have h0 := HM.out
                refine ⟨?_, hbr, fun h => by rw [h0]; exact HNIL.out h⟩
                rw [h0]
                exact HO.out
              subst hqp
              clear HTO
              go_wp2_with fail
              go_roundw
              case rel => first | exact ⟨k + 1, by omega, by go_num, HF⟩ | ((repeat apply Exists.intro); refine ⟨?_, rfl⟩; exact ⟨k + 1, by omega, by go_num, HF⟩)
              case measure => simp [Go.RowKit.intOf]; omega
            have hq1 : ((q : Int) == (p : Int)) = false := beq_eq_false_iff_ne.2 (by omega)
            have hq2 : (q == p) = false := beq_eq_false_iff_ne.2 hqp
            have hq3 : ¬ (q : Int) = (p : Int) := by omega
            have HA : Hid (∀ y (h : y < O.length), y < i → O[y] < p) := fun y h hy => by
              have h0 := HIJ.out
              have h1 := HQ2.out (by have := HM.out; omega)
              by_cases e : y = j
              · subst e; omega
              · have h2 := List.pairwise_iff_getElem.1 HU.out y j h (by have := HM.out; omega) (by omega)
                omega
            have HE : Hid (sortN (l.take (k + 1)) = O.take i ++ p :: O.drop i) := by
              show _ = _
              rw [HS.out, insN_at HU.out p i (by have := HM.out; omega) HJ.out HA.out]
            obtain ⟨g, cap, W2, W3, hrun, hcp1, hcp2, hcp, ⟨z0, hz0⟩, hfz, hown, hBg, hbW3, hBW3⟩ := put_tms (w0 := w) (W := wr) (B := w.heap.size) (O := zs O) (p : Int) i (by rw [zs_len]; have := HM.out; omega) (by rw [zs_len]; exact HO.out) hwB hbr (by rw [zs_len]; have := HM.out; omega) (by rw [zs_len]; exact HNIL.out)
            rw [zs_len, ← HM.out] at hrun hcp1 hcp
            have HF : Hid (SO w l (k + 1) (.slice (some ⟨g, 0, none⟩) (m + 1) cap) (W3.setCell ⟨g, i, none⟩ (.int .i64 (p : Int)))) := by
              have h9 := hown
              rw [zs_len, ← HM.out, ← zs_cut, ← HE.out] at h9
              have e8 : (sortN (l.take (k + 1))).length = m + 1 := by rw [HE.out]; have := HM.out; simp; omega
              refine HTO.out _ _ ⟨by rw [e8]; exact h9, bset hbW3 hBg, fun h => ?_⟩
              rw [e8] at h; omega
            clear hown hbW3 hBW3 HE HO HJ HTO HA
            have mixed : Try.prog.follows Departure.mixedOrders = true := by kernel_rfl
            have hw1 : IntKind.i64.wrap ((i : Int) + 1) = (i : Int) + 1 := by rw [IntKind.wrap_i64]; omega
            have hb1 : (0 : Int) ≤ (i : Int) + 1 := by omega
            have hle1 : (i : Int) + 1 ≤ (m : Int) + 1 := by omega
            have hle2 : (i : Int) ≤ (m : Int) + 1 := by omega
            have him : i ≤ m := by omega
            have htn : ((i : Int) + 1).toNat = i + 1 := by omega
            have hci : ¬ cap = i := by omega
            have hlt2 : (i : Int) < (m : Int) + 1 := by omega
            go_wp2_with fail
            by_cases hcapi : cap = i + 1
            · subst hcapi
              have hm0 : m - i = 0 := by omega
              have hq := hcp 83 3 0 (by have := HM.out; intro h; omega)
              go_region_law_o (refine Lk.copy_step rfl _ _ 83 83 rfl (by simp [Act.eval, Act.put, hm0]) (by simp [Act.eval, Act.put]) hq ?_)
              go_wp2_with fail
              go_roundw
              case rel => first | exact ⟨k + 1, by omega, by go_num, HF⟩ | ((repeat apply Exists.intro); refine ⟨?_, rfl⟩; exact ⟨k + 1, by omega, by go_num, HF⟩)
              case measure => simp [Go.RowKit.intOf]; omega
            · have hq := hcp 83 3 (i + 1) (fun _ => rfl)
              go_region_law_o (refine Lk.copy_step rfl _ _ 83 83 rfl (by simp [Act.eval, Act.put]) (by simp [Act.eval, Act.put]) hq ?_)
              go_wp2_with fail
              go_roundw
              case rel => first | exact ⟨k + 1, by omega, by go_num, HF⟩ | ((repeat apply Exists.intro); refine ⟨?_, rfl⟩; exact ⟨k + 1, by omega, by go_num, HF⟩)
              case measure => simp [Go.RowKit.intOf]; omega
        · have hip : ¬ ((0 : Int) < (i : Int)) := by omega
          have hip1 : decide ((0 : Int) < (i : Int)) = false := decide_eq_false hip
          have hip2 : decide (0 < i) = false := decide_eq_false hi0
          have HA : Hid (∀ y (h : y < O.length), y < i → O[y] < p) := fun y h hy => by omega
          have HE : Hid (sortN (l.take (k + 1)) = O.take i ++ p :: O.drop i) := by
            show _ = _
            rw [HS.out, insN_at HU.out p i (by have := HM.out; omega) HJ.out HA.out]
          obtain ⟨g, cap, W2, W3, hrun, hcp1, hcp2, hcp, ⟨z0, hz0⟩, hfz, hown, hBg, hbW3, hBW3⟩ := put_tms (w0 := w) (W := wr) (B := w.heap.size) (O := zs O) (p : Int) i (by rw [zs_len]; have := HM.out; omega) (by rw [zs_len]; exact HO.out) hwB hbr (by rw [zs_len]; have := HM.out; omega) (by rw [zs_len]; exact HNIL.out)
          rw [zs_len, ← HM.out] at hrun hcp1 hcp
          have HF : Hid (SO w l (k + 1) (.slice (some ⟨g, 0, none⟩) (m + 1) cap) (W3.setCell ⟨g, i, none⟩ (.int .i64 (p : Int)))) := by
            have h9 := hown
            rw [zs_len, ← HM.out, ← zs_cut, ← HE.out] at h9
            have e8 : (sortN (l.take (k + 1))).length = m + 1 := by rw [HE.out]; have := HM.out; simp; omega
            refine HTO.out _ _ ⟨by rw [e8]; exact h9, bset hbW3 hBg, fun h => ?_⟩
            rw [e8] at h; omega
          clear hown hbW3 hBW3 HE HO HJ HTO HA
          have mixed : Try.prog.follows Departure.mixedOrders = true := by kernel_rfl
          have hw1 : IntKind.i64.wrap ((i : Int) + 1) = (i : Int) + 1 := by rw [IntKind.wrap_i64]; omega
          have hb1 : (0 : Int) ≤ (i : Int) + 1 := by omega
          have hle1 : (i : Int) + 1 ≤ (m : Int) + 1 := by omega
          have hle2 : (i : Int) ≤ (m : Int) + 1 := by omega
          have him : i ≤ m := by omega
          have htn : ((i : Int) + 1).toNat = i + 1 := by omega
          have hci : ¬ cap = i := by omega
          have hlt2 : (i : Int) < (m : Int) + 1 := by omega
          go_wp2_with fail
          by_cases hcapi : cap = i + 1
          · subst hcapi
            have hm0 : m - i = 0 := by omega
            have hq := hcp 83 3 0 (by have := HM.out; intro h; omega)
            go_region_law_o (refine Lk.copy_step rfl _ _ 83 83 rfl (by simp [Act.eval, Act.put, hm0]) (by simp [Act.eval, Act.put]) hq ?_)
            go_wp2_with fail
            go_roundw
            case rel => first | exact ⟨k + 1, by omega, by go_num, HF⟩ | ((repeat apply Exists.intro); refine ⟨?_, rfl⟩; exact ⟨k + 1, by omega, by go_num, HF⟩)
            case measure => simp [Go.RowKit.intOf]; omega
          · have hq := hcp 83 3 (i + 1) (fun _ => rfl)
            go_region_law_o (refine Lk.copy_step rfl _ _ 83 83 rfl (by simp [Act.eval, Act.put]) (by simp [Act.eval, Act.put]) hq ?_)
            go_wp2_with fail
            go_roundw
            case rel => first | exact ⟨k + 1, by omega, by go_num, HF⟩ | ((repeat apply Exists.intro); refine ⟨?_, rfl⟩; exact ⟨k + 1, by omega, by go_num, HF⟩)
            case measure => simp [Go.RowKit.intOf]; omega
    · have hkn : decide ((k : Int) < (n : Int)) = false := decide_eq_false (by omega)
      have hte : l.take k = l := by have := HN.out; exact List.take_of_length_le (by omega)
      have HF2 : Hid (HasT wr u3 (zs (sortN l)) ∧ Below w.heap.size w wr) := by
        obtain ⟨a, b, _⟩ : wr.ownsRow w.heap.size 2 1 u3 (sortN (l.take k)).length (csT (zs (sortN (l.take k)))) ∧ Below w.heap.size w wr ∧ NilIf (sortN (l.take k)).length u3 := HI.out
        rw [hte, ← zs_len] at a
        exact ⟨hasRow_own a, b⟩
      clear hte HI
      go_wp2_with fail
      go_ret
      exact ⟨_, rfl, HF2.out.1, HF2.out.2⟩
end Go.Proofs.Ytmkbijnndbgjgaa.Iv
namespace Go.Proofs.Ytmkbijnndbgjgaa.Iv
open Go.RowKit
open Go.Proofs.Ytmkbijnndbgjgaa.Lk (HasRow hasRow_own addr_add)
open Go.Proofs.Ytmkbijnndbgjgaa.Sp (Sp inB inB_iff inB_nil inB_app Row rowB row_ext okS okS_iff okB okB_iff topN plc plc1 mem_plc plc_app plc_top in_const RwI rw_start rw_skip rw_open rw_keep rw_shut rw_end0 rw_tail rw_shift nxt nxt_at nxt_end)
open Go.Proofs.Ytmkbijnndbgjgaa.Ct (Up sortN up_sortN mem_sortN sortN_len)
open Go.Proofs.Ytmkbijnndbgjgaa.Addr (RowAt below2 below_drew below_new bset RowAt.lt RowAt.cell RowAt.frozen RowAt.below RowAt.drew RowAt.new RowAt.alloc cells2)
attribute [-go_sem] Builtin.append_
def how3 (h : Nat) (x y : Bool) : Bool := if h = 2 then (x && !y) else (if h = 1 then (x && y) else (x || y))
/-- the times at which a set may turn -/
def tms (l : List Sp) : List Nat := l.flatMap (fun s => [s.1, s.2 + 1])
theorem tms_app (a b : List Sp) : tms (a ++ b) = tms a ++ tms b := by unfold tms; rw [List.flatMap_append]
theorem tms_snoc (l : List Sp) (k : Nat) (h : k < l.length) : tms (l.take (k + 1)) = tms (l.take k) ++ [l[k].1, l[k].2 + 1] := by
  unfold tms
  rw [List.take_succ_eq_append_getElem h, List.flatMap_append]
  simp
theorem tms_len (l : List Sp) : (tms l).length = 2 * l.length := by
  induction l with
  | nil => rfl
  | cons s l ih =>
    show ([s.1, s.2 + 1] ++ tms l).length = _
    rw [List.length_append, ih]
    show 2 + 2 * l.length = 2 * (l.length + 1)
    omega
theorem mem_tms {l : List Sp} {x : Nat} : x ∈ tms l ↔ ∃ s ∈ l, x = s.1 ∨ x = s.2 + 1 := by
  unfold tms
  rw [List.mem_flatMap]
  constructor
  · rintro ⟨s, hs, h⟩
    simp only [List.mem_cons, List.not_mem_nil, or_false] at h
    exact ⟨s, hs, h⟩
  · rintro ⟨s, hs, h⟩
    refine ⟨s, hs, ?_⟩
    simp only [List.mem_cons, List.not_mem_nil, or_false]
    exact h
theorem plc_tms {l : List Sp} (ht : Tms l) {x : Nat} : x ∈ plc true l ↔ x ∈ tms l := by
  rw [mem_plc, mem_tms]
  constructor
  · rintro ⟨s, hs, h | ⟨_, h⟩⟩
    · exact ⟨s, hs, .inl h⟩
    · exact ⟨s, hs, .inr h⟩
  · rintro ⟨s, hs, h | h⟩
    · exact ⟨s, hs, .inl h⟩
    · refine ⟨s, hs, .inr ⟨?_, h⟩⟩
      have := (ht s hs).2
      rw [top6]; unfold MaxT at this; omega
theorem tms_bd {l : List Sp} (ht : Tms l) {x : Nat} (h : x ∈ tms l) : x ≤ MaxT + 1 := by
  obtain ⟨s, hs, h⟩ := mem_tms.1 h
  have := ht s hs
  rcases h with h | h <;> omega
/-- between two places a set of times does not turn -/
theorem tm_const {l : List Sp} (ht : Tms l) {p x : Nat} (hx : x ≤ topN true) (hp : p ≤ x) (hno : ∀ y ∈ tms l, y ≤ x → y ≤ p) : inB l x = inB l p :=
  in_const (tms_ok ht) hx hp (fun y hy => hno y ((plc_tms ht).1 hy))
/-- ahead of the first place there is nothing -/
theorem tm_low {l : List Sp} {x : Nat} (hno : ∀ y ∈ tms l, ¬ y ≤ x) : inB l x = false := by
  rw [← Bool.not_eq_true, inB_iff]
  rintro ⟨s, hs, h1, _⟩
  exact hno s.1 (mem_tms.2 ⟨s, hs, .inl rfl⟩) h1
section
variable {a b : List Sp}
def fnH (h : Nat) (a b : List Sp) (x : Nat) : Bool := how3 h (inB a x) (inB b x)
theorem pl_bd (ta : Tms a) (tb : Tms b) {k : Nat} (hk : k < (sortN (tms (a ++ b))).length) : (sortN (tms (a ++ b)))[k] ≤ MaxT + 1 := by
  have hm := (mem_sortN _ _).1 (List.getElem_mem hk)
  obtain ⟨y, hy⟩ : ∃ y, y = (sortN (tms (a ++ b)))[k] := ⟨_, rfl⟩
  rw [← hy] at hm ⊢
  rw [tms_app, List.mem_append] at hm
  rcases hm with hm | hm
  · exact tms_bd ta hm
  · exact tms_bd tb hm
theorem pl_step (ta : Tms a) (tb : Tms b) (h : Nat) {k : Nat} (hk : k < (sortN (tms (a ++ b))).length) : (sortN (tms (a ++ b)))[k] < nxt true (sortN (tms (a ++ b))) (k + 1) ∧ ∀ x, (sortN (tms (a ++ b)))[k] ≤ x → x < nxt true (sortN (tms (a ++ b))) (k + 1) → fnH h a b x = fnH h a b (sortN (tms (a ++ b)))[k] := by
  have hu := up_sortN (tms (a ++ b))
  have hbd := fun (j : Nat) (hj : j < (sortN (tms (a ++ b))).length) => pl_bd ta tb hj
  have hmem := fun y => mem_sortN (tms (a ++ b)) y
  generalize sortN (tms (a ++ b)) = P at *
  have hle := hbd k hk
  have htop : MaxT + 1 < topN true := by rw [top6]; unfold MaxT; omega
  have hnx : P[k] < nxt true P (k + 1) ∧ nxt true P (k + 1) ≤ topN true + 1 := by
    by_cases hk1 : k + 1 < P.length
    · rw [nxt_at hk1]
      have := hbd (k + 1) hk1
      exact ⟨List.pairwise_iff_getElem.1 hu k (k + 1) hk hk1 (by omega), by omega⟩
    · have e : k + 1 = P.length := by omega
      rw [e, nxt_end]; omega
  refine ⟨hnx.1, fun x h1 h2 => ?_⟩
  have hno : ∀ y ∈ P, y ≤ x → y ≤ P[k] := fun y hy hyx => by
    obtain ⟨i, hi, e⟩ := List.getElem_of_mem hy
    by_cases hik : i ≤ k
    · by_cases he : i = k
      · subst he; omega
      · have := List.pairwise_iff_getElem.1 hu i k hi hk (by omega)
        omega
    · exfalso
      have hk1 : k + 1 < P.length := by omega
      rw [nxt_at hk1] at h2
      by_cases he : i = k + 1
      · subst he; omega
      · have := List.pairwise_iff_getElem.1 hu (k + 1) i hk1 hi (by omega)
        omega
  unfold fnH
  rw [tm_const ta (by omega) h1 (fun y hy hyx => hno y ((hmem y).2 (by rw [tms_app]; exact List.mem_append_left _ hy)) hyx), tm_const tb (by omega) h1 (fun y hy hyx => hno y ((hmem y).2 (by rw [tms_app]; exact List.mem_append_right _ hy)) hyx)]
theorem fn_off (h : Nat) (hh : h ≤ 2) {x : Nat} (h1 : inB a x = false) (h2 : inB b x = false) : fnH h a b x = false := by
  unfold fnH how3
  rw [h1, h2]
  split
  · rfl
  · split <;> rfl
theorem pl_start (h : Nat) (hh : h ≤ 2) : RwI true (fnH h a b) [] false (nxt true (sortN (tms (a ++ b))) 0) := by
  have hu := up_sortN (tms (a ++ b))
  have hmem := fun y => mem_sortN (tms (a ++ b)) y
  generalize sortN (tms (a ++ b)) = P at *
  have hz : ∀ x, x < nxt true P 0 → fnH h a b x = false := fun x hx => by
    have hno : ∀ y ∈ P, ¬ y ≤ x := fun y hy hyx => by
      obtain ⟨i, hi, e⟩ := List.getElem_of_mem hy
      rw [nxt_at (show 0 < P.length by omega)] at hx
      by_cases he : i = 0
      · subst he; omega
      · have := List.pairwise_iff_getElem.1 hu 0 i (by omega) hi (by omega)
        omega
    exact fn_off h hh (tm_low (fun y hy => hno y ((hmem y).2 (by rw [tms_app]; exact List.mem_append_left _ hy)))) (tm_low (fun y hy => hno y ((hmem y).2 (by rw [tms_app]; exact List.mem_append_right _ hy))))
  by_cases h0 : nxt true P 0 = 0
  · rw [h0]; exact rw_start true _
  · exact rw_skip (rw_start true _) (by omega) (fun x _ hx => by rw [hz x hx, hz 0 (by omega)]) (hz 0 (by omega))
theorem pl_end (ta : Tms a) (tb : Tms b) (h : Nat) (hh : h ≤ 2) {R : List Sp} {o : Bool} (hI : RwI true (fnH h a b) R o (topN true + 1)) : Row true R ∧ (∀ x, inB R x = fnH h a b x) ∧ Tms R := by
  have htop : MaxT + 1 < topN true := by rw [top6]; unfold MaxT; omega
  have hoff : ∀ x, MaxT < x → fnH h a b x = false := fun x hx => fn_off h hh (by rw [← Bool.not_eq_true]; intro h2; have := in_tms ta h2; omega) (by rw [← Bool.not_eq_true]; intro h2; have := in_tms tb h2; omega)
  cases o
  · obtain ⟨h1, h2⟩ := rw_end0 hI
    have hin : ∀ x, inB R x = fnH h a b x := fun x => by
      rw [Bool.eq_iff_iff, h2]
      constructor
      · exact fun hq => hq.1
      · intro hq
        refine ⟨hq, ?_⟩
        apply Classical.byContradiction
        intro hn
        rw [hoff x (by omega)] at hq
        cases hq
    refine ⟨h1, hin, tms_in h1.1 (fun x hx => ?_)⟩
    apply Classical.byContradiction
    intro hn
    rw [hin, hoff x (by omega)] at hx
    cases hx
  · obtain ⟨A, q, _, hq, h1, _⟩ := hI.2 rfl
    have := h1 (topN true) (by omega) (by omega)
    rw [hoff _ (by omega)] at this
    cases this
end
theorem own_shapeI {w W : World} {u : Value} {R : List Iv} (h : OwnI w W u R) (hR : 0 < R.length) : ∃ gr c, u = .slice (some ⟨gr, 0, none⟩) R.length c ∧ R.length ≤ c ∧ c ≤ 9223372036854775807 ∧ w.heap.size ≤ gr ∧ gr < W.heap.size := by
  rcases h.ou.2 with ⟨_, h0⟩ | ⟨g, cap, cur, rfl, hg, hgb, hnc, hcm, _⟩
  · omega
  · exact ⟨g, cap, rfl, hnc, by unfold maxLen at hcm; exact hcm, hg, (Array.getElem?_eq_some_iff.1 hgb).1⟩
theorem own_putI {w W : World} {gr c : Nat} {A : List Iv} {q z : Int} (y : Int) (h : OwnI w W (.slice (some ⟨gr, 0, none⟩) (A.length + 1) c) (A ++ [(q, z)])) (hg : w.heap.size ≤ gr) : OwnI w (W.setCell ⟨gr, A.length * 2 + 1, none⟩ (.int .i64 y)) (.slice (some ⟨gr, 0, none⟩) (A.length + 1) c) (A ++ [(q, y)]) := by
  refine ⟨?_, bset h.bl hg⟩
  have e2 : (A ++ [(q, z)]).length = A.length + 1 := by simp
  have e3 : (A ++ [(q, y)]).length = A.length + 1 := by simp
  have hou := h.ou
  rw [e2] at hou
  have h5 := (hou.stored (A.length * 2 + 1) (.int .i64 y)).1
  have e : (csI (A ++ [(q, z)])).set (A.length * 2 + 1) (.int .i64 y) = csI (A ++ [(q, y)]) := by
    rw [csI_app, csI_app, List.set_append_right _ _ (by rw [csI_len]; omega), csI_len, csI_one, csI_one, show A.length * 2 + 1 - A.length * 2 = 1 by omega]
    rfl
  rw [e] at h5
  rw [e3]
  exact h5
theorem lit2T (W : World) (x y : Int) : HasT (W.alloc (.cells #[.int .i64 x, .int .i64 y] 2)) (.slice (some ⟨W.heap.size, 0, none⟩) 2 2) [x, y] := by
  refine ⟨rfl, .inr ⟨⟨W.heap.size, 0, none⟩, 2, rfl, Nat.le_refl _, by decide, fun _ => ⟨rfl, by simp⟩, fun j hj => ?_⟩⟩
  rw [addr_add, Nat.zero_add]
  exact (RowAt.new W [.int .i64 x, .int .i64 y] 2).cell j
theorem zs_app (a b : List Nat) : zs (a ++ b) = zs a ++ zs b := List.map_append
theorem ofS_snoc (R : List Sp) (p : Nat) (z : Nat) : (R ++ [(p, z)]).map ofS = R.map ofS ++ [((p : Int), (z : Int))] := by rw [List.map_append]; rfl
end Go.Proofs.Ytmkbijnndbgjgaa.Iv
namespace Go.Proofs.Ytmkbijnndbgjgaa.Iv
open Go.RowKit Go.Shelf
open Go.Proofs.Ytmkbijnndbgjgaa.Lk (HasRow hasRow_own addr_add)
open Go.Proofs.Ytmkbijnndbgjgaa.Sp (Sp inB inB_iff inB_nil Row rowB row_ext okS okS_iff okB okB_iff topN chk)
open Go.Proofs.Ytmkbijnndbgjgaa.Addr (RowAt below2 below_drew below_new bset RowAt.lt RowAt.cell RowAt.frozen RowAt.below RowAt.drew RowAt.new RowAt.alloc cells2)
theorem okJ_one (wi : Iv) : okJ [wi] = okI wi := by
  cases h : okI wi
  · cases h2 : okJ [wi]
    · rfl
    · have := List.all_eq_true.1 (okJ_all h2) wi List.mem_cons_self
      rw [h] at this; cases this
  · exact row_one h
theorem fn_not (l : List Iv) (wi : Iv) (x : Nat) : fnH 2 ([wi].map toS) (l.map toS) x = notM l wi x := by
  have e6 : inB ([wi].map toS) x = (decide (wi.1.toNat ≤ x) && decide (x ≤ wi.2.toNat)) := by
    rw [Bool.eq_iff_iff, inB_iff]
    simp only [List.map_cons, List.map_nil, List.mem_singleton, exists_eq_left, Bool.and_eq_true, decide_eq_true_eq]
    exact Iff.rfl
  show (inB ([wi].map toS) x && !inB (l.map toS) x) = _
  rw [e6]; rfl
end Go.Proofs.Ytmkbijnndbgjgaa.Iv
namespace Go.Proofs.Ytmkbijnndbgjgaa.Iv
open Go.RowKit Go.Shelf
open Go.Proofs.Ytmkbijnndbgjgaa.Lk (HasRow hasRow_own addr_add)
def fewB (n : Nat) : Bool := !(decide (60 < n) && decide (n ≤ 1024))
theorem few_cases (n : Nat) : (n ≤ 60 ∧ fewB n = true) ∨ (60 < n ∧ n ≤ 1024 ∧ fewB n = false) ∨ (1024 < n ∧ fewB n = true) := by
  unfold fewB
  rcases Nat.lt_or_ge 60 n with h | h
  · rcases Nat.lt_or_ge 1024 n with h2 | h2
    · exact .inr (.inr ⟨h2, by rw [decide_eq_false (by omega : ¬ n ≤ 1024), Bool.and_false]; rfl⟩)
    · exact .inr (.inl ⟨h, h2, by rw [decide_eq_true h, decide_eq_true h2]; rfl⟩)
  · exact .inl ⟨h, by rw [decide_eq_false (by omega : ¬ 60 < n)]; rfl⟩
end Go.Proofs.Ytmkbijnndbgjgaa.Iv
