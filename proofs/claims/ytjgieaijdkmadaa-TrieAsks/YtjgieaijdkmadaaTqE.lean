/- trie.Cuts. -/
import Derived.Test.YtjgieaijdkmadaaLkBase
import Derived.Test.YtjgieaijdkmadaaAddrLast
import Derived.Test.YtjgieaijdkmadaaAddrNext
import Derived.Test.YtjgieaijdkmadaaAddrCheck
import Derived.Laws.OwnMore
import Derived.Lib.SliceRun
import Derived.Test.YtjgieaijdkmadaaShelfS
import Derived.Test.YtjgieaijdkmadaaAddrCmp
import Derived.Shelf.SlSortCmp.NoneTotal
import Derived.Test.YtjgieaijdkmadaaTrCheck
import Derived.Test.YtjgieaijdkmadaaTqD
import Derived.Test.YtjgieaijdkmadaaTqC
set_option linter.unusedVariables false
namespace Go.Proofs.Ytjgieaijdkmadaa.Ct
open Go.RowKit
open Go.Proofs.Ytjgieaijdkmadaa.Addr (hiN loN adV cmpN)
open Go.Proofs.Ytjgieaijdkmadaa.Lk (HasRow addr_add hasRow_own)
def adC (n : Nat) : List Value := [.int .u64 (hiN n : Int), .int .u64 (loN n : Int)]
def adCs (l : List Nat) : List Value := l.flatMap adC
theorem adCs_len (l : List Nat) : (adCs l).length = l.length * 2 := by
  induction l with
  | nil => rfl
  | cons s l ih =>
    show (adC s ++ adCs l).length = _
    rw [List.length_append, ih, List.length_cons]
    show 2 + _ = _
    omega
theorem adCs_app (a b : List Nat) : adCs (a ++ b) = adCs a ++ adCs b := by unfold adCs; rw [List.flatMap_append]
theorem one_ads (l : List Nat) : ∀ x ∈ adCs l, x.oneCell' = true := by
  intro x hx
  obtain ⟨p, _, h⟩ := List.mem_flatMap.1 hx
  simp only [adC, List.mem_cons, List.not_mem_nil, or_false] at h
  rcases h with rfl | rfl <;> rfl
def HasAds (W : World) (v : Value) (l : List Nat) : Prop := HasRow W v 2 l.length (adCs l)
theorem HasAds.keep {W W' : World} {v : Value} {l : List Nat} (h : HasAds W v l) (hb : Below W.heap.size W W') : HasAds W' v l := Lk.HasRow.keep h hb
theorem adCs_at (l : List Nat) : ∀ j (h : j < l.length), (adCs l)[2 * j]? = some (.int .u64 (hiN l[j] : Int)) ∧ (adCs l)[2 * j + 1]? = some (.int .u64 (loN l[j] : Int)) := by
  induction l with
  | nil => intro j h; simp at h
  | cons p ps ih =>
    intro j h
    cases j with
    | zero => exact ⟨rfl, rfl⟩
    | succ j =>
      have := ih j (by simpa using h)
      rw [show adCs (p :: ps) = .int .u64 (hiN p : Int) :: .int .u64 (loN p : Int) :: adCs ps from rfl, show 2 * (j + 1) = 2 * j + 1 + 1 by omega]
      simp only [List.getElem?_cons_succ, List.getElem_cons_succ]
      exact this
theorem HasAds.cell {W : World} {o : Option Addr} {m cap : Nat} {l : List Nat} (h : HasAds W (.slice o m cap) l) (j : Nat) (hj : j < l.length) : ∃ b i, o = some ⟨b, i, none⟩ ∧ b < W.heap.size ∧ W.cell? ⟨b, i + j * 2, none⟩ = some (.int .u64 (hiN l[j] : Int)) ∧ W.cell? ⟨b, i + j * 2 + 1, none⟩ = some (.int .u64 (loN l[j] : Int)) := by
  obtain ⟨_, b, i, e, hb, hc⟩ := Lk.HasRow.at h (by omega)
  have h2 := adCs_at l j hj
  exact ⟨b, i, e, hb, by rw [hc (j * 2) (by omega), Nat.mul_comm]; exact h2.1, by rw [Nat.add_assoc, hc (j * 2 + 1) (by omega), Nat.mul_comm]; exact h2.2⟩
theorem adCs_set (m : List Nat) (x : Nat) : ∀ j, j < m.length → ((adCs m).set (j * 2) (.int .u64 (hiN x : Int))).set (j * 2 + 1) (.int .u64 (loN x : Int)) = adCs (m.set j x) := by
  induction m with
  | nil => intro j h; simp at h
  | cons y m ih =>
    intro j h
    cases j with
    | zero => rfl
    | succ j =>
      have := ih j (by simpa using h)
      rw [show adCs (y :: m) = .int .u64 (hiN y : Int) :: .int .u64 (loN y : Int) :: adCs m from rfl, show (j + 1) * 2 = j * 2 + 1 + 1 by omega, List.set_cons_succ, List.set_cons_succ, List.set_cons_succ, List.set_cons_succ, this]
      rfl
theorem adCs_take (l : List Nat) : ∀ j, (adCs l).take (j * 2) = adCs (l.take j) := by
  induction l with
  | nil => intro j; simp [adCs]
  | cons x l ih =>
    intro j
    cases j with
    | zero => simp [adCs]
    | succ j =>
      show (adC x ++ adCs l).take ((j + 1) * 2) = adC x ++ adCs (l.take j)
      rw [List.take_append, ← ih j]
      congr 1
      · rw [List.take_of_length_le (by show 2 ≤ _; omega)]
      · show (adCs l).take ((j + 1) * 2 - 2) = _
        congr 1
        omega
theorem adCs_drop (l : List Nat) : ∀ j, (adCs l).drop (j * 2) = adCs (l.drop j) := by
  induction l with
  | nil => intro j; simp [adCs]
  | cons x l ih =>
    intro j
    cases j with
    | zero => simp
    | succ j =>
      show (adC x ++ adCs l).drop ((j + 1) * 2) = adCs (l.drop j)
      rw [List.drop_append, ← ih j, List.drop_of_length_le (l := adC x) (by show 2 ≤ _; omega), List.nil_append]
      show (adCs l).drop ((j + 1) * 2 - 2) = _
      congr 1
      omega
/-- rising numbers -/
abbrev Up (l : List Nat) : Prop := l.Pairwise (· < ·)
theorem ext_up : ∀ (a b : List Nat), Up a → Up b → (∀ z, z ∈ a ↔ z ∈ b) → a = b := by
  intro a
  induction a with
  | nil =>
    intro b _ _ h
    cases b with
    | nil => rfl
    | cons y b => exact absurd ((h y).2 List.mem_cons_self) (by simp)
  | cons x a ih =>
    intro b ha hb h
    cases b with
    | nil => exact absurd ((h x).1 List.mem_cons_self) (by simp)
    | cons y b =>
      have h1 := List.pairwise_cons.1 ha
      have h2 := List.pairwise_cons.1 hb
      have hxy : x = y := by
        rcases List.mem_cons.1 ((h x).1 List.mem_cons_self) with e | e
        · exact e
        · rcases List.mem_cons.1 ((h y).2 List.mem_cons_self) with e2 | e2
          · exact e2.symm
          · have := h2.1 x e; have := h1.1 y e2; omega
      subst hxy
      congr 1
      refine ih b h1.2 h2.2 (fun z => ?_)
      constructor
      · intro hz
        rcases List.mem_cons.1 ((h z).1 (List.mem_cons_of_mem _ hz)) with e | e
        · subst e; have := h1.1 z hz; omega
        · exact e
      · intro hz
        rcases List.mem_cons.1 ((h z).2 (List.mem_cons_of_mem _ hz)) with e | e
        · subst e; have := h2.1 z hz; omega
        · exact e
/-- a number put where it belongs, once -/
def insN (l : List Nat) (a : Nat) : List Nat := l.filter (fun x => decide (x < a)) ++ a :: l.filter (fun x => decide (a < x))
theorem mem_insN (l : List Nat) (a z : Nat) : z ∈ insN l a ↔ z = a ∨ z ∈ l := by
  unfold insN
  simp only [List.mem_append, List.mem_filter, List.mem_cons, decide_eq_true_eq]
  constructor
  · rintro (h | h | h)
    · exact .inr h.1
    · exact .inl h
    · exact .inr h.1
  · rintro (h | h)
    · exact .inr (.inl h)
    · rcases Nat.lt_trichotomy z a with g | g | g
      · exact .inl ⟨h, g⟩
      · exact .inr (.inl g)
      · exact .inr (.inr ⟨h, g⟩)
theorem up_insN {l : List Nat} (h : Up l) (a : Nat) : Up (insN l a) := by
  unfold insN
  refine List.pairwise_append.2 ⟨h.sublist List.filter_sublist, List.pairwise_cons.2 ⟨fun z hz => by simpa using (List.mem_filter.1 hz).2, h.sublist List.filter_sublist⟩, fun x hx y hy => ?_⟩
  have h1 := (List.mem_filter.1 hx).2
  simp only [decide_eq_true_eq] at h1
  rcases List.mem_cons.1 hy with rfl | hy
  · exact h1
  · have h2 := (List.mem_filter.1 hy).2
    simp only [decide_eq_true_eq] at h2
    omega
/-- numbers in order, each once -/
def sortN (l : List Nat) : List Nat := l.foldl insN []
theorem sortN_from (l : List Nat) : ∀ out, Up out → Up (l.foldl insN out) ∧ ∀ z, z ∈ l.foldl insN out ↔ z ∈ out ∨ z ∈ l := by
  induction l with
  | nil => intro out h; exact ⟨h, fun z => by simp⟩
  | cons a l ih =>
    intro out h
    obtain ⟨i1, i2⟩ := ih (insN out a) (up_insN h a)
    refine ⟨i1, fun z => ?_⟩
    rw [List.foldl_cons, i2, mem_insN, List.mem_cons]
    constructor
    · rintro ((h | h) | h)
      · exact .inr (.inl h)
      · exact .inl h
      · exact .inr (.inr h)
    · rintro (h | h | h)
      · exact .inl (.inr h)
      · exact .inl (.inl h)
      · exact .inr h
theorem up_sortN (l : List Nat) : Up (sortN l) := (sortN_from l [] List.Pairwise.nil).1
theorem mem_sortN (l : List Nat) (z : Nat) : z ∈ sortN l ↔ z ∈ l := by
  have := (sortN_from l [] List.Pairwise.nil).2 z
  unfold sortN
  simpa using this
theorem sortN_of {l m : List Nat} (hm : Up m) (h : ∀ z, z ∈ m ↔ z ∈ l) : m = sortN l := ext_up _ _ hm (up_sortN l) (fun z => by rw [h, mem_sortN])
end Go.Proofs.Ytjgieaijdkmadaa.Ct
namespace Go.Proofs.Ytjgieaijdkmadaa.Ct
/-- numbers that do not fall -/
abbrev Le (l : List Nat) : Prop := l.Pairwise (· ≤ ·)
theorem Le.at {d : List Nat} (h : Le d) {j k : Nat} (hj : j ≤ k) (hk : k < d.length) (hj2 : j < d.length) : d[j] ≤ d[k] := by
  rcases Nat.lt_or_eq_of_le hj with g | g
  · exact List.pairwise_iff_getElem.1 h j k hj2 hk g
  · subst g; exact Nat.le_refl _
/-- what is there while numbers are put together: M the row now, q where the next one goes, j the one that is looked at -/
structure CI (d M : List Nat) (q j : Nat) : Prop where
  len : M.length = d.length
  q1 : 1 ≤ q
  qj : q < j
  jn : j ≤ d.length
  up : Up (M.take q)
  mem : ∀ z, z ∈ M.take q ↔ z ∈ d.take j
  rest : ∀ t, j - 1 ≤ t → M[t]? = d[t]?
theorem take_mem_succ {d : List Nat} {j : Nat} (h : j < d.length) (z : Nat) : z ∈ d.take (j + 1) ↔ z ∈ d.take j ∨ z = d[j] := by
  rw [List.take_succ_eq_append_getElem h, List.mem_append, List.mem_singleton]
theorem mem_take_at {d : List Nat} {j k : Nat} (h : j < k) (hk : j < d.length) : d[j] ∈ d.take k := by
  rw [List.mem_take_iff_getElem]
  exact ⟨j, by omega, rfl⟩
theorem CI.start {d : List Nat} {k : Nat} (hk : 1 ≤ k) (hn : k < d.length) (hu : Up (d.take k)) (e : d[k] = d[k - 1]) : CI d d k (k + 1) where
  len := rfl
  q1 := hk
  qj := by omega
  jn := by omega
  up := hu
  mem := fun z => by
    rw [take_mem_succ hn]
    constructor
    · intro h; exact .inl h
    · rintro (h | h)
      · exact h
      · rw [h, e]; exact mem_take_at (by omega) (by omega)
  rest := fun t _ => rfl
theorem CI.skip {d M : List Nat} {q j : Nat} (h : CI d M q j) (hj : j < d.length) (e : d[j] = d[j - 1]) : CI d M q (j + 1) where
  len := h.len
  q1 := h.q1
  qj := by have := h.qj; omega
  jn := by omega
  up := h.up
  mem := fun z => by
    rw [h.mem, take_mem_succ hj]
    constructor
    · intro h; exact .inl h
    · rintro (g | g)
      · exact g
      · rw [g, e]; have := h.qj; exact mem_take_at (by omega) (by omega)
  rest := fun t ht => h.rest t (by omega)
theorem CI.put {d M : List Nat} {q j : Nat} (hd : Le d) (h : CI d M q j) (hj : j < d.length) (e : ¬ d[j] = d[j - 1]) : CI d (M.set q d[j]) (q + 1) (j + 1) := by
  have hq := h.qj
  have hqM : q < M.length := by rw [h.len]; omega
  have hlt : d[j - 1] < d[j] := by
    have := hd.at (j := j - 1) (k := j) (by omega) hj (by omega)
    omega
  have htk : (M.set q d[j]).take (q + 1) = M.take q ++ [d[j]] := by
    rw [List.take_succ_eq_append_getElem (by rw [List.length_set]; exact hqM), List.take_set, List.set_eq_of_length_le (by rw [List.length_take]; omega), List.getElem_set_self]
  have hall : ∀ z ∈ M.take q, z ≤ d[j - 1] := fun z hz => by
    have := (h.mem z).1 hz
    obtain ⟨t, ht, rfl⟩ := List.mem_take_iff_getElem.1 this
    exact hd.at (by omega) (by omega) (by omega)
  refine ⟨by rw [List.length_set]; exact h.len, by omega, by omega, by omega, ?_, fun z => ?_, fun t ht => ?_⟩
  · rw [htk]
    refine List.pairwise_append.2 ⟨h.up, List.pairwise_singleton _ _, fun a ha b hb => ?_⟩
    rw [List.mem_singleton] at hb
    subst hb
    have := hall a ha
    omega
  · rw [htk, List.mem_append, List.mem_singleton, h.mem, take_mem_succ hj]
  · rw [List.getElem?_set_ne (by omega)]
    exact h.rest t (by omega)
theorem CI.done {d M : List Nat} {q : Nat} (h : CI d M q d.length) : M.take q = sortN d := sortN_of h.up (fun z => by rw [h.mem, List.take_length])
theorem CI.at0 {d M : List Nat} {q j : Nat} (h : CI d M q j) (hj : j < d.length) (hM : j < M.length) : M[j] = d[j] := by
  have := h.rest j (by omega)
  rw [List.getElem?_eq_getElem hM, List.getElem?_eq_getElem hj] at this
  injection this
theorem CI.at1 {d M : List Nat} {q j : Nat} (h : CI d M q j) (hj : j - 1 < d.length) (hM : j - 1 < M.length) : M[j - 1] = d[j - 1] := by
  have := h.rest (j - 1) (by omega)
  rw [List.getElem?_eq_getElem hM, List.getElem?_eq_getElem hj] at this
  injection this
theorem up_step {d : List Nat} (hd : Le d) {k : Nat} (hk : 1 ≤ k) (hn : k < d.length) (hu : Up (d.take k)) (e : ¬ d[k] = d[k - 1]) : Up (d.take (k + 1)) := by
  rw [List.take_succ_eq_append_getElem hn]
  refine List.pairwise_append.2 ⟨hu, List.pairwise_singleton _ _, fun a ha b hb => ?_⟩
  rw [List.mem_singleton] at hb
  subst hb
  obtain ⟨t, ht, rfl⟩ := List.mem_take_iff_getElem.1 ha
  have h1 := hd.at (j := t) (k := k - 1) (by omega) (by omega) (by omega)
  have h2 := hd.at (j := k - 1) (k := k) (by omega) hn (by omega)
  omega
theorem up_one {d : List Nat} (h : d.length ≤ 1) : Up d := by
  match d, h with
  | [], _ => exact List.Pairwise.nil
  | [a], _ => exact List.pairwise_singleton _ _
  | a :: b :: l, h => simp at h
theorem sortN_up {d : List Nat} (h : Up d) : sortN d = d := (sortN_of h (fun z => Iff.rfl)).symm
end Go.Proofs.Ytjgieaijdkmadaa.Ct
namespace Go.Proofs.Ytjgieaijdkmadaa.Ct
open Go.RowKit
open Go.Proofs.Ytjgieaijdkmadaa.Addr (hiN loN adV ad_eql ad_neq ad_guard RowAt below2 below_drew below_new bset RowAt.lt RowAt.cell RowAt.frozen RowAt.below RowAt.drew RowAt.new RowAt.alloc cells2)
open Go.Proofs.Ytjgieaijdkmadaa.Lk (hasRow_own)
attribute [-go_sem] Builtin.append_
theorem info_ad : (Try.prog.info? 25).map (fun i => (i.zero, i.size, i.bytes)) = some (some (.agg #[.int .u64 0, .int .u64 0]), 2, 16) := by kernel_rfl
theorem info_parts {e sz by' : Nat} {z : Value} (h : (Try.prog.info? e).map (fun i => (i.zero, i.size, i.bytes)) = some (some z, sz, by')) : ∃ i, Try.prog.info? e = some i ∧ i.zero = some z ∧ i.size = sz ∧ i.bytes = by' := by
  cases hi : Try.prog.info? e with
  | none => rw [hi] at h; cases h
  | some i =>
    rw [hi] at h
    simp only [Option.map_some, Option.some.injEq, Prod.mk.injEq] at h
    exact ⟨i, rfl, h.1, h.2.1, h.2.2⟩
theorem own_below {W W' : World} {m e size k : Nat} {v : Value} {xs : List Value} (h : W.ownsRow m e size v k xs) (hb : Below W.heap.size W W') : W'.ownsRow m e size v k xs := by
  refine ⟨h.1, ?_⟩
  rcases h.2 with h0 | ⟨g, cap, cur, e1, hg, hgb, rest⟩
  · exact .inl h0
  · exact .inr ⟨g, cap, cur, e1, hg, by rw [hb.block g (Array.getElem?_eq_some_iff.1 hgb).1]; exact hgb, rest⟩
theorem own_cut {W : World} {B e sz g n cap m : Nat} {xs : List Value} (h : W.ownsRow B e sz (.slice (some ⟨g, 0, none⟩) n cap) n xs) (hm : m ≤ n) : W.ownsRow B e sz (.slice (some ⟨g, 0, none⟩) m cap) m (xs.take (m * sz)) := by
  have hmn : m * sz ≤ n * sz := Nat.mul_le_mul_right sz hm
  refine ⟨by rw [List.length_take, h.1]; omega, ?_⟩
  rcases h.2 with ⟨e0, _⟩ | ⟨g', cap', cur, e1, hg, hgb, hnc, hcm, hcs, htk⟩
  · cases e0
  · injection e1 with e1 _ e3
    injection e1 with e1
    injection e1 with e1
    subst e1 e3
    exact .inr ⟨g, cap, cur, rfl, hg, hgb, Nat.le_trans hm hnc, hcm, hcs, by rw [← htk, List.take_take, Nat.min_eq_left hmn]⟩
theorem own_put2 {W : World} {B e gr n cap q : Nat} {xs : List Value} (h : W.ownsRow B e 2 (.slice (some ⟨gr, 0, none⟩) n cap) n xs) (v0 v1 : Value) (Z : World) (hZ : Z = (W.setCell ⟨gr, q * 2, none⟩ v0).setCell ⟨gr, q * 2 + 1, none⟩ v1) : Z.ownsRow B e 2 (.slice (some ⟨gr, 0, none⟩) n cap) n ((xs.set (q * 2) v0).set (q * 2 + 1) v1) ∧ W.grownBy Z (some gr) := by
  have s1 := h.stored (q * 2) v0
  have s2 := (s1.1).stored (q * 2 + 1) v1
  subst hZ
  exact ⟨s2.1, ⟨s2.2.os.trans s1.2.os, s2.2.tape.trans s1.2.tape, s2.2.output.trans s1.2.output, Nat.le_trans s1.2.size s2.2.size, fun j hj hn => (s2.2.block j (Nat.lt_of_lt_of_le hj s1.2.size) hn).trans (s1.2.block j hj hn)⟩⟩
def zeroCs : Array Value := #[.int .u64 0, .int .u64 0]
def zerosA (n : Nat) : List Value := (Builtin.zeroCells zeroCs n).toList
theorem zeros_len (n : Nat) : (zerosA n).length = n * 2 := by
  unfold zerosA Builtin.zeroCells
  simp [show zeroCs.size = 2 from rfl]
theorem zeros_one (n : Nat) : ∀ v ∈ zerosA n, v.oneCell' = true := by
  intro v hv
  unfold zerosA Builtin.zeroCells at hv
  simp only [Array.toList_map, List.mem_map, show zeroCs.size = 2 from rfl] at hv
  obtain ⟨i, _, rfl⟩ := hv
  have key : ∀ r, r < 2 → (zeroCs[r]!).oneCell' = true := by decide
  exact key _ (Nat.mod_lt _ (by decide))
theorem clear_ads (w : World) (ty : TypeId) (b o n c : Nat) (hn : 0 < n) (hc : ∀ j, j < n * 2 → (w.cell? ⟨b, o + j, none⟩).isSome = true) (hf : ∀ j, w.frozen? ⟨b, j, none⟩ = false) :
    (Builtin.clear_ #[44] ty #[.slice (some ⟨b, o, none⟩) n c]).run Try.prog w = .ok (.tuple #[]) (w.setCells b o (zerosA n)) := by
  have hv : ∀ w, (zeroValue 25).run Try.prog w = .ok (.agg zeroCs) w := fun w => by simp [zeroValue, show Try.t25.zero = some (.agg zeroCs) from by kernel_rfl]
  have hst := run_storeCells_cells (P := Try.prog) b o (zerosA n) 0 w (by rw [zeros_len]; intro j hj; simpa using hc j hj) (fun j _ => hf _) (zeros_one n)
  simp only [Nat.add_zero] at hst
  have hzc : (Builtin.zeroCells (Value.cells (.agg zeroCs)) n).toList = zerosA n := rfl
  obtain ⟨m, rfl⟩ : ∃ m, n = m + 1 := ⟨n - 1, by omega⟩
  simp [Builtin.clear_, run_underlying Try.underlying44, hv, hzc, hst]
theorem own_sets {B e sz g n cap : Nat} : ∀ (vs : List Value) (o : Nat) {W : World} {xs : List Value}, W.ownsRow B e sz (.slice (some ⟨g, 0, none⟩) n cap) n xs → ∃ ys, (W.setCells g o vs).ownsRow B e sz (.slice (some ⟨g, 0, none⟩) n cap) n ys ∧ ys.take o = xs.take o ∧ W.grownBy (W.setCells g o vs) (some g)
  | [], o, W, xs, h => ⟨xs, h, rfl, ⟨rfl, rfl, rfl, Nat.le_refl _, fun _ _ _ => rfl⟩⟩
  | v :: vs, o, W, xs, h => by
    obtain ⟨s1, s2⟩ := h.stored o v
    obtain ⟨ys, h1, h2, h3⟩ := own_sets vs (o + 1) s1
    refine ⟨ys, h1, ?_, ?_⟩
    · have := congrArg (List.take o) h2
      rw [List.take_take, List.take_take, Nat.min_eq_left (by omega)] at this
      rw [this, List.take_set, List.set_eq_of_length_le (by rw [List.length_take]; omega)]
    · exact ⟨h3.os.trans s2.os, h3.tape.trans s2.tape, h3.output.trans s2.output, Nat.le_trans s2.size h3.size, fun j hj hn => (h3.block j (Nat.lt_of_lt_of_le hj s2.size) hn).trans (s2.block j hj hn)⟩
/-- an owned row's cells -/
theorem own_cells {W : World} {B g n cap j : Nat} {M : List Nat} (h : W.ownsRow B 25 2 (.slice (some ⟨g, 0, none⟩) n cap) n (adCs M)) (hM : M.length = n) (hj : j < M.length) : W.cell? ⟨g, j * 2, none⟩ = some (.int .u64 (hiN M[j] : Int)) ∧ W.cell? ⟨g, j * 2 + 1, none⟩ = some (.int .u64 (loN M[j] : Int)) := by
  have h2 := adCs_at M j hj
  exact ⟨by rw [h.cellAt (j * 2) (by omega), Nat.mul_comm]; exact h2.1, by rw [h.cellAt (j * 2 + 1) (by omega), Nat.mul_comm]; exact h2.2⟩
theorem own_drew {W : World} {m e size k : Nat} {v : Value} {xs : List Value} (h : W.ownsRow m e size v k xs) (n : Nat) : (W.drewN n).ownsRow m e size v k xs := h
set_option maxHeartbeats 8000000 in
set_option maxRecDepth 20000 in
theorem compact_any (d : List Nat) (gr cap n B : Nat) (w : World) (hn : n = d.length) (hlen : n ≤ 1000) (hd : Le d)
    (hown : w.ownsRow B 25 2 (.slice (some ⟨gr, 0, none⟩) n cap) n (adCs d)) (hB : B ≤ gr) (hBw : B ≤ w.heap.size) (hcap : n ≤ cap ∧ cap ≤ 9223372036854775807) :
    Calls Try.prog 48 #[.slice (some ⟨gr, 0, none⟩) n cap] w fun e w' => ∃ k, e = .returned (.slice (some ⟨gr, 0, none⟩) k cap) ∧ w'.ownsRow B 25 2 (.slice (some ⟨gr, 0, none⟩) k cap) k (adCs (sortN d)) ∧ Below B w w' := by
  have hni : (n : Int) ≤ 1000 := by omega
  have HN : Hid (n = d.length) := hn
  have HLE : Hid (Le d) := hd
  have hgd := ad_guard
  by_cases h2 : n < 2
  · have hs : sortN d = d := sortN_up (up_one (by omega))
    rw [hs]
    have h2i : (n : Int) < 2 := by omega
    have HOW : Hid (w.ownsRow B 25 2 (.slice (some ⟨gr, 0, none⟩) n cap) n (adCs d)) := hown
    clear hown hn hd hs h2
    go_enter Try.func48, Try.ntmps48
    go_wp2_with fail
    go_ret
    exact ⟨n, rfl, HOW.out, Below.refl _ _⟩
  have h2i : ¬ (n : Int) < 2 := by omega
  have HOW : Hid (w.ownsRow B 25 2 (.slice (some ⟨gr, 0, none⟩) n cap) n (adCs d)) := hown
  have HU0 : Hid (Up (d.take 1)) := up_one (by rw [List.length_take]; omega)
  clear hown hn hd
  go_enter Try.func48, Try.ntmps48
  go_wp2_with fail
  go_loopw [3] (fun a wr => ∃ k : Nat, 1 ≤ k ∧ k ≤ n ∧ a = .int .i64 (k : Int) ∧ Hid (Up (d.take k)) ∧ Hid (wr.ownsRow B 25 2 (.slice (some ⟨gr, 0, none⟩) n cap) n (adCs d)) ∧ Below B w wr ∧ B ≤ wr.heap.size) (fun a _ => n - (Go.RowKit.intOf a).toNat)
  case atStart => exact ⟨1, by omega, by omega, rfl, HU0, HOW, Below.refl _ _, hBw⟩
  case round =>
    obtain ⟨k, hk1, hkn, rfl, HU, HO, hBr, hBs⟩ := hrel
    clear HOW HU0
    by_cases hlt : k < n
    · obtain ⟨s, hs⟩ : ∃ s, k = s + 1 := ⟨k - 1, by omega⟩
      have hkd : k < d.length := by have := HN.out; omega
      obtain ⟨a0, a1⟩ := own_cells HO.out (HN.out).symm hkd
      obtain ⟨b0, b1⟩ := own_cells HO.out (HN.out).symm (j := s) (by omega)
      have heq : ∀ W, (binOp .eql 25 (.agg #[.int .u64 (hiN d[k] : Int), .int .u64 (loN d[k] : Int)]) (.agg #[.int .u64 (hiN d[s] : Int), .int .u64 (loN d[s] : Int)])).run Try.prog W = .ok (.bool (decide (d[k] = d[s]))) W := fun W => ad_eql d[k] d[s] W
      have hds : d[k - 1]'(by omega) = d[s] := by congr 1; omega
      have HT1 : Hid (decide (d[k] = d[s]) = true → CI d d k (k + 1)) := fun h => CI.start hk1 hkd HU.out (by rw [hds]; exact of_decide_eq_true h)
      have HT0 : Hid (decide (d[k] = d[s]) = false → Up (d.take (k + 1))) := fun h => up_step HLE.out hk1 hkd HU.out (by rw [hds]; exact of_decide_eq_false h)
      generalize decide (d[k] = d[s]) = E at *
      generalize (hiN d[k] : Int) = p0 at *
      generalize (loN d[k] : Int) = p1 at *
      generalize (hiN d[s] : Int) = q0 at *
      generalize (loN d[s] : Int) = q1 at *
      clear hds hkd
      have hki : (k : Int) < (n : Int) := by omega
      have hsi : (s : Int) < (n : Int) := by omega
      have hck : ¬ cap = k := by omega
      have hkc : (k : Int) ≤ (cap : Int) := by omega
      subst hs
      clear HU
      cases E
      · have HU2 : Hid (Up (d.take (s + 1 + 1))) := HT0.out rfl
        clear HT0 HT1
        go_wp2_with fail
        go_quiet (fail)
        go_wp2_with fail
        go_roundw
        case rel => exact ⟨s + 1 + 1, by omega, by omega, by go_num, HU2, HO, by first | exact hBr | exact below_drew hBr | exact below_drewN hBr _, hBs⟩
        case measure => simp [Go.RowKit.intOf]; omega
      · have HI0 : Hid (CI d d (s + 1) (s + 1 + 1)) := HT1.out rfl
        clear HT0 HT1
        go_wp2_with fail
        go_quiet (fail)
        go_wp2_with fail
        obtain ⟨wA, hA⟩ : ∃ wA, wA = wr.drewN nq := ⟨_, rfl⟩
        have HOA : Hid (wA.ownsRow B 25 2 (.slice (some ⟨gr, 0, none⟩) n cap) n (adCs d)) := by rw [hA]; exact own_drew HO.out _
        have hBA : Below B w wA := by rw [hA]; exact below_drewN hBr _
        have hBsA : B ≤ wA.heap.size := by rw [hA]; exact hBs
        rw [← hA]
        clear hA HO hBr hBs a0 a1 b0 b1 heq
        obtain ⟨K, hK⟩ : ∃ K, K = s + 1 := ⟨_, rfl⟩
        rw [← hK] at HI0 hki hck hkc ⊢
        have hKn : K < n := by omega
        clear hK hlt hsi hk1 hkn
        go_loopw [3, 5] (fun a b wr => ∃ (q t : Nat) (M : List Nat), Hid (CI d M q (K + t)) ∧ 1 ≤ t ∧ K + t ≤ n ∧ q < K + t ∧ a = .int .i64 (q : Int) ∧ b = .int .i64 (t : Int) ∧ Hid (wr.ownsRow B 25 2 (.slice (some ⟨gr, 0, none⟩) n cap) n (adCs M)) ∧ Below B w wr ∧ B ≤ wr.heap.size) (fun _ b _ => n - (Go.RowKit.intOf b).toNat)
        case atStart => exact ⟨K, 1, d, HI0, by omega, by omega, by omega, rfl, rfl, HOA, hBA, hBsA⟩
        case round =>
          obtain ⟨q, t, M, HI, ht1, htn, hqt, rfl, rfl, HO, hBr, hBs⟩ := hrel
          clear HOA hBA hBsA HI0
          have hML : M.length = n := by rw [HI.out.len, HN.out]
          by_cases hlt : K + t < n
          · obtain ⟨s, hs⟩ : ∃ s, t = s + 1 := ⟨t - 1, by omega⟩
            have hjd : K + t < d.length := by have := HN.out; omega
            have hjM : K + t < M.length := by omega
            obtain ⟨a0, a1⟩ := own_cells HO.out hML hjM
            obtain ⟨b0, b1⟩ := own_cells HO.out hML (j := K + s) (by omega)
            have e0 := HI.out.at0 hjd hjM
            have e1 : M[K + s]'(by omega) = d[K + s]'(by omega) := by
              have h := HI.out.rest (K + s) (by omega)
              rw [List.getElem?_eq_getElem (by omega), List.getElem?_eq_getElem (by omega)] at h
              injection h
            rw [e0] at a0 a1
            rw [e1] at b0 b1
            rw [show (K + t) * 2 = K * 2 + t * 2 by omega] at a0 a1
            rw [show (K + s) * 2 = K * 2 + s * 2 by omega] at b0 b1
            have hneq : ∀ W, (binOp .neq 25 (.agg #[.int .u64 (hiN d[K + t] : Int), .int .u64 (loN d[K + t] : Int)]) (.agg #[.int .u64 (hiN (d[K + s]'(by omega)) : Int), .int .u64 (loN (d[K + s]'(by omega)) : Int)])).run Try.prog W = .ok (.bool (!decide (d[K + t] = d[K + s]'(by omega)))) W := fun W => ad_neq _ _ W
            have hds : d[K + t - 1]'(by omega) = d[K + s]'(by omega) := by congr 1; omega
            have HT1 : Hid ((!decide (d[K + t] = d[K + s]'(by omega))) = false → CI d M q (K + t + 1)) := fun h => HI.out.skip hjd (by rw [hds]; simpa using h)
            have HT0 : Hid ((!decide (d[K + t] = d[K + s]'(by omega))) = true → CI d (M.set q d[K + t]) (q + 1) (K + t + 1)) := fun h => HI.out.put HLE.out hjd (by rw [hds]; simpa using h)
            have HSS : Hid (((adCs M).set (q * 2) (.int .u64 (hiN d[K + t] : Int))).set (q * 2 + 1) (.int .u64 (loN d[K + t] : Int)) = adCs (M.set q d[K + t])) := adCs_set M _ q (by omega)
            generalize (!decide (d[K + t] = d[K + s]'(by omega))) = E at *
            obtain ⟨MS, hMS⟩ : ∃ MS, MS = M.set q d[K + t] := ⟨_, rfl⟩
            rw [← hMS] at HSS HT0
            clear hMS e0 e1 hds
            generalize (hiN d[K + t] : Int) = p0 at *
            generalize (loN d[K + t] : Int) = p1 at *
            generalize (hiN (d[K + s]'(by omega)) : Int) = q0 at *
            generalize (loN (d[K + s]'(by omega)) : Int) = q1 at *
            have htk : t < n - K := by omega
            have hsk : s < n - K := by omega
            have hqi : (q : Int) < (n : Int) := by omega
            have hqn : q * 2 + 1 < n * 2 := by omega
            clear HI hjd hjM hML
            subst hs
            cases E
            · have HI2 : Hid (CI d M q (K + (s + 1) + 1)) := HT1.out rfl
              clear HT0 HT1 HSS
              go_wp2_with fail
              go_quiet (fail)
              go_wp2_with fail
              go_roundw
              case rel => exact ⟨q, s + 1 + 1, M, HI2, by omega, by omega, by omega, rfl, by go_num, HO, by first | exact hBr | exact below_drew hBr | exact below_drewN hBr _, hBs⟩
              case measure => simp [Go.RowKit.intOf]; omega
            · have HI2 : Hid (CI d MS (q + 1) (K + (s + 1) + 1)) := HT0.out rfl
              clear HT0 HT1
              go_wp2_with fail
              go_quiet (fail)
              obtain ⟨wB, hB'⟩ : ∃ wB, wB = wr.drewN nq := ⟨_, rfl⟩
              replace HO : Hid (wB.ownsRow B 25 2 (.slice (some ⟨gr, 0, none⟩) n cap) n (adCs M)) := by rw [hB']; exact own_drew HO.out _
              replace hBr : Below B w wB := by rw [hB']; exact below_drewN hBr _
              replace hBs : B ≤ wB.heap.size := by rw [hB']; exact hBs
              replace a0 : wB.cell? ⟨gr, K * 2 + (s + 1) * 2, none⟩ = some (.int .u64 p0) := by rw [hB']; exact a0
              replace a1 : wB.cell? ⟨gr, K * 2 + (s + 1) * 2 + 1, none⟩ = some (.int .u64 p1) := by rw [hB']; exact a1
              rw [← hB']
              clear hB' b0 b1 hneq
              have hf : ∀ j, wB.frozen? ⟨gr, j, none⟩ = false := fun j => (HO.out).frozenAt j
              obtain ⟨Z, hZ⟩ : ∃ Z, Z = (wB.setCell ⟨gr, q * 2, none⟩ (.int .u64 p0)).setCell ⟨gr, q * 2 + 1, none⟩ (.int .u64 p1) := ⟨_, rfl⟩
              obtain ⟨g1, g2⟩ := own_put2 HO.out _ _ Z hZ
              rw [HSS.out] at g1
              have HO5 : Hid (Z.ownsRow B 25 2 (.slice (some ⟨gr, 0, none⟩) n cap) n (adCs MS)) := g1
              have HC5 : Hid (Below B w Z ∧ B ≤ Z.heap.size) := ⟨hBr.grown g2 hBs (fun x e => by injection e with e; omega), Nat.le_trans hBs g2.size⟩
              clear g1 g2
              have hcq : ∀ x, x < n * 2 → ∃ z, wB.cell? ⟨gr, x, none⟩ = some z := fun x hx => ⟨_, (HO.out).cellAt x hx |>.trans (List.getElem?_eq_getElem (by rw [(HO.out).1]; exact hx))⟩
              obtain ⟨z0, hz0⟩ := hcq (q * 2) (by omega)
              obtain ⟨z1, hz1⟩ := hcq (q * 2 + 1) (by omega)
              clear HO HSS hcq
              go_upto_region 13 with fail
              rw [← hZ]
              clear hZ
              go_wp2_with fail
              go_roundw
              case rel => exact ⟨q + 1, s + 1 + 1, MS, HI2, by omega, by omega, by omega, by go_num, by go_num, HO5, HC5.out.1, HC5.out.2⟩
              case measure => simp [Go.RowKit.intOf]; omega
          · have htd : ¬ (t : Int) < ((n - K : Nat) : Int) := by omega
            have htd2 : ¬ t < n - K := by omega
            have hjn : K + t = n := by omega
            have hqi : (q : Int) ≤ (n : Int) := by omega
            have hqc : (q : Int) ≤ (cap : Int) := by omega
            have hcq : ¬ cap = q := by omega
            have hqn : q < n := by omega
            have hcells : ∀ x, x < n * 2 → (wr.cell? ⟨gr, x, none⟩).isSome = true := fun x hx => by
              rw [(HO.out).cellAt x hx |>.trans (List.getElem?_eq_getElem (by rw [(HO.out).1]; exact hx))]; rfl
            have hf : ∀ x, wr.frozen? ⟨gr, x, none⟩ = false := fun x => (HO.out).frozenAt x
            have hcl := fun ty => clear_ads wr ty gr (q * 2) (n - q) (cap - q) (by omega) (fun x hx => hcells _ (by omega)) hf
            obtain ⟨ys, o1, o2, o3⟩ := own_sets (zerosA (n - q)) (q * 2) HO.out
            obtain ⟨Z, hZ⟩ : ∃ Z, Z = wr.setCells gr (q * 2) (zerosA (n - q)) := ⟨_, rfl⟩
            rw [← hZ] at o1 o3
            simp only [← hZ] at hcl
            have hBZ : Below B w Z := hBr.grown o3 hBs (fun x e => by injection e with e; omega)
            have HF : Hid (Z.ownsRow B 25 2 (.slice (some ⟨gr, 0, none⟩) q cap) q (adCs (sortN d))) := by
              have h1 := own_cut o1 (m := q) (by omega)
              have h2 := HI.out
              rw [hjn, HN.out] at h2
              rw [o2, adCs_take, h2.done] at h1
              exact h1
            clear o1 o2 o3 hZ HO hcells hf HI hjn
            go_wp2_with fail
            go_ret
            exact ⟨q, rfl, HF.out, hBZ⟩
    · have hkn2 : k = n := by omega
      subst hkn2
      have hkd : decide ((k : Int) < (k : Int)) = false := decide_eq_false (by omega)
      have HF : Hid (wr.ownsRow B 25 2 (.slice (some ⟨gr, 0, none⟩) k cap) k (adCs (sortN d))) := by
        have hu := HU.out
        rw [HN.out, List.take_length] at hu
        show wr.ownsRow _ _ _ _ _ _
        rw [sortN_up hu]
        exact HO.out
      clear HU HO
      go_wp2_with fail
      go_ret
      exact ⟨k, rfl, HF.out, hBr⟩
end Go.Proofs.Ytjgieaijdkmadaa.Ct
namespace Go.Proofs.Ytjgieaijdkmadaa.Ct
open Go.RowKit Go.Shelf Go.Lib Go.Sort
open Go.Proofs.Ytjgieaijdkmadaa.Addr (hiN loN adV cmpN hiN_lt loN_lt compare_any or_any cmp_parts RowAt below2 below_drew below_new bset RowAt.lt RowAt.cell RowAt.frozen RowAt.below RowAt.drew RowAt.new RowAt.alloc cells2)
abbrev Ad := { n : Nat // n < 2 ^ 128 }
def encA (x : Ad) : List Value := [.int .u64 (hiN x.1 : Int), .int .u64 (loN x.1 : Int)]
def cfA (x y : Ad) : Int := cmpN x.1 y.1
theorem ltA (x y : Ad) : ltOf cfA x y = decide (x.1 < y.1) := by
  unfold ltOf cfA cmpN
  by_cases h1 : x.1 < y.1
  · simp [h1]
  · rw [if_neg h1, decide_eq_false h1]
    split <;> rfl
theorem swoA : SWO (ltOf cfA) where
  irrefl x := by rw [ltA]; simp
  trans x y z h1 h2 := by rw [ltA] at *; simp at *; omega
  ntrans x y z h1 h2 := by rw [ltA] at *; simp at *; omega
theorem grow_of {W w' : World} (h : Below W.heap.size W w') (hd : W.drawn ≤ w'.drawn) : ∃ q os', w' = grow (W.drewN q) os' := by
  refine ⟨w'.drawn - W.drawn, w'.heap.extract W.heap.size w'.heap.size, ?_⟩
  obtain ⟨h1, h2, h3, h4, h5⟩ := h
  cases w' with
  | mk hp tp dr os ou =>
    cases W with
    | mk hp0 tp0 dr0 os0 ou0 =>
      simp only [grow, World.drewN] at *
      subst h1 h2 h3
      congr 1
      · apply Array.ext_getElem?
        intro k
        by_cases hk : k < hp0.size
        · rw [Array.getElem?_append_left hk, h5 k hk]
        · rw [Array.getElem?_append_right (by omega), Array.getElem?_extract]
          by_cases hk2 : k < hp.size
          · rw [if_pos (by omega)]; congr 1; omega
          · rw [if_neg (by omega), Array.getElem?_eq_none (by omega)]
      · omega
set_option maxHeartbeats 2000000 in
theorem cmp_grow (n m : Nat) (w : World) (hn : n < 2 ^ 128) (hm : m < 2 ^ 128) : Calls Try.prog 27 #[adV n, adV m] w fun e w' => e = .returned (.int .i64 (cmpN n m)) ∧ ∃ q os', w' = grow (w.drewN q) os' := by
  have c1 := fun w => compare_any (hiN n) (hiN m) w (by have := hiN_lt hn; omega) (by have := hiN_lt hm; omega)
  have c2 := fun w => compare_any (loN n) (loN m) w (by have := loN_lt n; omega) (by have := loN_lt m; omega)
  have HR : Hid ((if cmpN (hiN n) (hiN m) = 0 then cmpN (loN n) (loN m) else cmpN (hiN n) (hiN m)) = cmpN n m) := cmp_parts n m
  unfold adV
  generalize cmpN (hiN n) (hiN m) = x at *
  generalize cmpN (loN n) (loN m) = y at *
  generalize cmpN n m = R at HR ⊢
  have c3 := fun g w h => or_any x y g w h
  rw [HR.out] at c3
  clear HR
  generalize hiN n = a at *
  generalize hiN m = b at *
  generalize loN n = c at *
  generalize loN m = d at *
  clear hn hm
  have h3 : RowAt (((w.alloc (.cells #[.int .u64 (a : Int), .int .u64 (c : Int)] 25)).alloc (.cells #[.int .u64 (b : Int), .int .u64 (d : Int)] 25)).alloc (.cells #[.int .i64 x, .int .i64 y] 3)).drew (w.heap.size + 1 + 1) [.int .i64 x, .int .i64 y] 3 := by
    have := RowAt.new ((w.alloc (.cells #[.int .u64 (a : Int), .int .u64 (c : Int)] 25)).alloc (.cells #[.int .u64 (b : Int), .int .u64 (d : Int)] 25)) [.int .i64 x, .int .i64 y] 3
    rw [World.size_alloc, World.size_alloc] at this
    exact this.drew
  have HG : Hid (∃ q os', (((w.alloc (.cells #[.int .u64 (a : Int), .int .u64 (c : Int)] 25)).alloc (.cells #[.int .u64 (b : Int), .int .u64 (d : Int)] 25)).alloc (.cells #[.int .i64 x, .int .i64 y] 3)).drew = grow (w.drewN q) os') := grow_of (below_drew (below_new (below_new (below_new (Below.refl _ w) _) _) _)) (by simp only [World.drew, World.alloc]; omega)
  go_enter Try.func27, Try.ntmps27
  go_wp2_with fail
  go_region_held3 (fun w' => w'.cell? ⟨w.heap.size, 0, none⟩ = some (.int .u64 (a : Int)) ∧ w'.cell? ⟨w.heap.size, 1, none⟩ = some (.int .u64 (c : Int)) ∧ w'.cell? ⟨w.heap.size + 1, 0, none⟩ = some (.int .u64 (b : Int)) ∧ w'.cell? ⟨w.heap.size + 1, 1, none⟩ = some (.int .u64 (d : Int)))
    (go_keep)
    (first
    | (go_at_call 56; with_reducible refine (c1 _).mono ?_; rintro e w2 ⟨rfl, rfl⟩)
    | (go_at_call 56; with_reducible refine (c2 _).mono ?_; rintro e w2 ⟨rfl, rfl⟩)
    | (go_at_call 55; with_reducible refine (c3 _ _ h3).mono ?_; rintro e w2 ⟨rfl, rfl⟩))
  go_wp2_with fail
  go_ret
  exact ⟨rfl, HG.out⟩
/-- a row's cells, laid anew in an owned row -/
theorem own_sorted {w : World} {B e gr n cap q : Nat} {os : Array Obj} {xs : List Value} (h : w.ownsRow B e 2 (.slice (some ⟨gr, 0, none⟩) n cap) n xs) (F : Array Value) (hF : F.size = n * 2) :
    (grow (putRow id (Sort.ahead w q) gr 0 F) os).ownsRow B e 2 (.slice (some ⟨gr, 0, none⟩) n cap) n F.toList ∧ w.grownBy (grow (putRow id (Sort.ahead w q) gr 0 F) os) (some gr) := by
  have hg : w.grownBy (grow (putRow id (Sort.ahead w q) gr 0 F) os) (some gr) := by
    refine ⟨rfl, rfl, rfl, by simp, fun k hk hne => ?_⟩
    rw [heap_grow_old _ _ (by simpa using hk)]
    have : gr ≠ k := fun e => hne (by rw [e])
    simp [putRow, mapBlock, Sort.ahead, Array.getElem?_modify, this]
  refine ⟨⟨by simpa using hF, ?_⟩, hg⟩
  rcases h.2 with ⟨e0, _⟩ | ⟨g', cap', cur, e1, hgB, hgb, hnc, hcm, hcs, htk⟩
  · cases e0
  · injection e1 with e1 _ e3
    injection e1 with e1
    injection e1 with e1
    subst e1 e3
    have hgl : gr < w.heap.size := (Array.getElem?_eq_some_iff.1 hgb).1
    refine .inr ⟨gr, cap, putCells id 0 F cur, rfl, hgB, ?_, hnc, hcm, by simp [putCells, hcs], ?_⟩
    · rw [heap_grow_old _ _ (by simpa using hgl)]
      simp [putRow, mapBlock, Sort.ahead, Array.getElem?_modify, hgb, onCells]
    · have hle : n * 2 ≤ cap * 2 := Nat.mul_le_mul_right 2 hnc
      apply List.ext_getElem?
      intro j
      by_cases hj : j < n * 2
      · rw [List.getElem?_take_of_lt hj, Array.getElem?_toList]
        have h1 : j < cur.size := by omega
        have h2 : j < F.size := by omega
        simp [putCells, h1, h2]
      · rw [List.getElem?_take_eq_none (by omega), List.getElem?_eq_none (by simp; omega)]
theorem flat_ads [Inhabited Ad] (l : List Ad) : (flatK encA 2 l.toArray).toList = adCs (l.map (·.1)) := by
  apply List.ext_getElem?
  intro t
  by_cases ht : t < l.length * 2
  · have hq : t / 2 < l.length := by omega
    have h := adCs_at (l.map (·.1)) (t / 2) (by simpa using hq)
    have hs : t < (flatK encA 2 l.toArray).size := by simpa using ht
    rw [Array.getElem?_toList, Array.getElem?_eq_getElem hs]
    have hg := get_flatK encA 2 l.toArray t (by simpa using ht)
    rw [getElem!_pos (flatK encA 2 l.toArray) t hs] at hg
    rw [hg]
    have hl : l.toArray[t / 2]! = l[t / 2] := by simp [hq]
    rw [hl]
    rcases Nat.mod_two_eq_zero_or_one t with h0 | h0
    · rw [h0]
      have e : t = 2 * (t / 2) := by omega
      have := h.1
      rw [← e] at this
      rw [this]
      simp [encA]
    · rw [h0]
      have e : t = 2 * (t / 2) + 1 := by omega
      have := h.2
      rw [← e] at this
      rw [this]
      simp [encA]
  · rw [List.getElem?_eq_none (by simp; omega), List.getElem?_eq_none (by rw [adCs_len]; simp; omega)]
theorem lift_ads : ∀ (d : List Nat), (∀ x ∈ d, x < 2 ^ 128) → ∃ l : List Ad, l.map (·.1) = d
  | [], _ => ⟨[], rfl⟩
  | x :: d, h => by
    obtain ⟨l, hl⟩ := lift_ads d (fun y hy => h y (List.mem_cons_of_mem _ hy))
    exact ⟨⟨x, h x List.mem_cons_self⟩ :: l, by rw [List.map_cons, hl]⟩
theorem sort_any (d : List Nat) (gr cap n B : Nat) (w : World) (hn : n = d.length) (hlen : n ≤ 1000) (hf : ∀ x ∈ d, x < 2 ^ 128)
    (hown : w.ownsRow B 25 2 (.slice (some ⟨gr, 0, none⟩) n cap) n (adCs d)) (hB : B ≤ gr) (hBw : B ≤ w.heap.size) :
    Calls Try.prog 47 #[.slice (some ⟨gr, 0, none⟩) n cap, .func (.func 27) #[] #[]] w fun e w' => e = .returned (.tuple #[]) ∧ ∃ d', Le d' ∧ d'.length = n ∧ (∀ z, z ∈ d' ↔ z ∈ d) ∧ w'.ownsRow B 25 2 (.slice (some ⟨gr, 0, none⟩) n cap) n (adCs d') ∧ Below B w w' ∧ w.heap.size ≤ w'.heap.size := by
  haveI : Inhabited Ad := ⟨⟨0, by decide⟩⟩
  obtain ⟨l, rfl⟩ := lift_ads d hf
  have hl : l.length = n := by rw [hn]; simp
  have hgr : gr < w.heap.size := by
    rcases hown.2 with ⟨e0, _⟩ | ⟨g', cap', cur, e1, hgB, hgb, _⟩
    · cases e0
    · injection e1 with e1 _ e3
      injection e1 with e1
      injection e1 with e1
      subst e1
      exact (Array.getElem?_eq_some_iff.1 hgb).1
  have hH : HoldsK encA 2 w gr 0 l.toArray := by
    intro j hj
    have hj2 : j < n * 2 := by simpa [hl] using hj
    refine ⟨?_, hown.frozenAt _⟩
    rw [Nat.zero_add, hown.cellAt j hj2, ← flat_ads, Array.getElem?_toList, Array.getElem?_eq_getElem hj, getElem!_pos (flatK encA 2 l.toArray) j hj]
    rfl
  have eg : ∀ args w, (callFunc 27 args).run Try.prog w = .ok (.enter 27 args) w := enters_of Try.func27 (by kernel_rfl) rfl
  have hcon := AnyQ.slices_SortFunc_total Try.sortF 2 Try.isAgg25 Try.sizeOf25 encA (fun _ => rfl) (fun x v hv => by simp [encA] at hv; rcases hv with rfl | rfl <;> rfl) cfA swoA 27 #[] gr 0 cap l.toArray w eg (fun m os dk _ x y => cmp_grow x.1 y.1 _ x.2 y.2) hH hgr (by simp; omega) (fun x y h1 h2 => by
    rw [ltA] at h1 h2
    simp at h1 h2
    exact Subtype.ext (Nat.le_antisymm h2 h1))
  have hsz : l.toArray.size = n := by simpa using hl
  rw [hsz] at hcon
  refine hcon.mono ?_
  rintro e w' ⟨he, q, os, hw⟩
  refine ⟨he, (l.mergeSort fun x y => !(ltOf cfA) y x).map (·.1), ?_, by simpa using hl, fun z => ?_, ?_, ?_, ?_⟩
  · have hp := List.pairwise_mergeSort (le := fun x y => !(ltOf cfA) y x) (fun a b c h1 h2 => by simp only [ltA] at *; simp at *; omega) (fun a b => by simp only [ltA]; simp; omega) l
    exact List.pairwise_map.2 (hp.imp (fun {a b} h => by simp only [ltA] at h; simpa using h))
  · simp only [List.mem_map, List.mem_mergeSort]
  · rw [hw]
    have h := (own_sorted (q := q) (os := os) hown (flatK encA 2 (l.mergeSort fun x y => !(ltOf cfA) y x).toArray) (by simp [hl])).1
    rw [flat_ads] at h
    exact h
  · rw [hw]
    have h := (own_sorted (q := q) (os := os) hown (flatK encA 2 (l.mergeSort fun x y => !(ltOf cfA) y x).toArray) (by simp [hl])).2
    exact (Below.refl B w).grown h hBw (fun x e => by injection e with e; omega)
  · rw [hw]
    exact (own_sorted (q := q) (os := os) hown (flatK encA 2 (l.mergeSort fun x y => !(ltOf cfA) y x).toArray) (by simp [hl])).2.size
end Go.Proofs.Ytjgieaijdkmadaa.Ct
namespace Go.Proofs.Ytjgieaijdkmadaa.Ct
open Go.RowKit
open Go.Proofs.Ytjgieaijdkmadaa.Addr (Pf pfV okP rightB lastE nextE lastN wideN hiN loN adV cmpN RowAt below2 below_drew below_new bset RowAt.lt RowAt.cell RowAt.frozen RowAt.below RowAt.drew RowAt.new RowAt.alloc cells2)
open Go.Proofs.Ytjgieaijdkmadaa.Lk (hasRow_own)
open Go.Proofs.Ytjgieaijdkmadaa.Tr (Rt HasRts HasRts.keep FitR okT okR checkT six_at six_of)
attribute [-go_sem] Builtin.append_
/-- where a route begins, and the address behind its last one -/
def partC (six : Bool) (r : Rt) : List Nat := if r.pf.six = six then [r.pf.n, (nextE six (lastE r.pf).1).1] else []
def partsC (l : List Rt) (six : Bool) : List Nat := l.flatMap (partC six)
def cutsT (l : List Rt) (six : Bool) : List Nat × Int := if okT l then (sortN (0 :: partsC l six), 0) else ([], 2)
theorem partsC_snoc (l : List Rt) (six : Bool) (k : Nat) (h : k < l.length) : partsC (l.take (k + 1)) six = partsC (l.take k) six ++ partC six l[k] := by
  unfold partsC
  rw [List.take_succ_eq_append_getElem h, List.flatMap_append]
  simp
theorem partC_len (six : Bool) (r : Rt) : (partC six r).length ≤ 2 := by unfold partC; split <;> simp
theorem partsC_len (l : List Rt) (six : Bool) : (partsC l six).length ≤ 2 * l.length := by
  induction l with
  | nil => simp [partsC]
  | cons r l ih =>
    show (partC six r ++ partsC l six).length ≤ _
    have := partC_len six r
    rw [List.length_append, List.length_cons]
    omega
theorem last_lt (p : Pf) (h : p.n < 2 ^ 128) : (lastE p).1 < 2 ^ 128 := by
  unfold lastE
  split
  · rename_i hk
    have h1 : 2 ^ wideN p.six ≤ 2 ^ 128 := Nat.pow_le_pow_right (by decide) (by unfold wideN; split <;> omega)
    exact Nat.lt_of_lt_of_le (Go.Proofs.Ytjgieaijdkmadaa.Addr.last_lt hk) h1
  · decide
theorem next_lt (six : Bool) (n : Nat) (h : n < 2 ^ 128) : (nextE six n).1 < 2 ^ 128 := by
  unfold nextE
  split
  · rename_i hr
    split
    · decide
    · rename_i hne
      unfold rightB at hr
      simp only [decide_eq_true_eq] at hr
      have h1 : 2 ^ wideN six ≤ 2 ^ 128 := Nat.pow_le_pow_right (by decide) (by unfold wideN; split <;> omega)
      show n + 1 < 2 ^ 128
      omega
  · decide
theorem partsC_lt {l : List Rt} (hf : ∀ r ∈ l, FitR r) (six : Bool) : ∀ x ∈ (0 :: partsC l six), x < 2 ^ 128 := by
  intro x hx
  rcases List.mem_cons.1 hx with rfl | hx
  · decide
  · obtain ⟨r, hr, hm⟩ := List.mem_flatMap.1 hx
    unfold partC at hm
    split at hm
    · simp only [List.mem_cons, List.not_mem_nil, or_false] at hm
      have h1 := (hf r hr).1.2
      rcases hm with rfl | rfl
      · exact h1
      · exact next_lt _ _ (last_lt _ h1)
    · cases hm
/-- a row of one's own, and nothing else -/
structure OwnC (w W : World) (v : Value) (m : List Nat) : Prop where
  own : W.ownsRow w.heap.size 25 2 v m.length (adCs m)
  bl : Below w.heap.size w W
theorem OwnC.below {w W W' : World} {v : Value} {m : List Nat} (h : OwnC w W v m) (hb : Below W.heap.size W W') : OwnC w W' v m := ⟨own_below h.own hb, below2 h.bl hb⟩
theorem OwnC.app {w W : World} {v u : Value} {m news : List Nat} (h : OwnC w W v m) (hu : HasAds W u news) (hl : m.length + news.length ≤ 1000000) :
    ∃ v' w3, (∀ ty, (Builtin.append_ #[44, 44] ty #[v, u]).run Try.prog W = .ok v' w3) ∧ OwnC w w3 v' (m ++ news) := by
  obtain ⟨v', w3, hrun, ho, hg⟩ := Lk.append_row info_ad Try.underlying44 rfl (by decide) h.own hu (one_ads news) (by omega) (by omega) h.bl.size
  rw [← adCs_app, ← List.length_append] at ho
  exact ⟨v', w3, hrun, ho, h.bl.grown hg h.bl.size (fun k e => (h.own.lt k e).1)⟩
theorem lit_two (W : World) (a b : Nat) : HasAds (W.alloc (.cells #[.int .u64 (hiN a : Int), .int .u64 (loN a : Int), .int .u64 (hiN b : Int), .int .u64 (loN b : Int)] 25)) (.slice (some ⟨W.heap.size, 0, none⟩) 2 2) [a, b] :=
  hasRow_own (World.ownsRow_lit (base := W.heap.size) W #[.int .u64 (hiN a : Int), .int .u64 (loN a : Int), .int .u64 (hiN b : Int), .int .u64 (loN b : Int)] 2 (Nat.le_refl _) (by decide) rfl)
theorem OwnC.slice {w W : World} {v : Value} {m : List Nat} (h : OwnC w W v m) (hm : 0 < m.length) : ∃ g cap, v = .slice (some ⟨g, 0, none⟩) m.length cap ∧ w.heap.size ≤ g ∧ m.length ≤ cap ∧ cap ≤ 9223372036854775807 := by
  rcases h.own.2 with ⟨rfl, h0⟩ | ⟨g, cap, cur, rfl, hgB, hgb, hnc, hcm, hcs, htk⟩
  · have := h.own.1
    rw [adCs_len] at this
    omega
  · exact ⟨g, cap, rfl, hgB, hnc, hcm⟩
set_option maxHeartbeats 8000000 in
set_option maxRecDepth 20000 in
theorem cuts_walk (l : List Rt) (o : Option Addr) (n c : Nat) (six : Bool) (w : World) (hn : n = l.length) (hlen : n ≤ 256) (hl : HasRts w (.slice o n c) l) (hfit : ∀ r ∈ l, FitR r)
    (cc : ∀ W, HasRts W (.slice o n c) l → Calls Try.prog 16 #[.slice o n c] W fun e w' => e = .returned (.int .i64 0) ∧ Below W.heap.size W w') :
    Calls Try.prog 21 #[.slice o n c, .bool six] w fun e w' => ∃ v, e = .returned (.tuple #[v, .int .i64 0]) ∧ OwnC w w' v (sortN (0 :: partsC l six)) := by
  have HN : Hid (n = l.length) := hn
  have HR : Hid (∀ wr : World, Below w.heap.size w wr → HasRts wr (.slice o n c) l) := fun wr hb => hl.keep hb
  have HF : Hid (∀ r ∈ l, FitR r) := hfit
  have HFE : Hid (∀ x ∈ (0 :: partsC l six), x < 2 ^ 128) := partsC_lt hfit six
  have hni : (n : Int) ≤ 256 := by omega
  have cl : Hid (∀ (p : Pf) (W : World), Tr.FitP p → Calls Try.prog 45 #[pfV p] W fun e w' => e = .returned (.tuple #[adV (lastE p).1, .int .i64 (lastE p).2]) ∧ Below W.heap.size W w') := fun p W h => Addr.last_any p W h.1 h.2
  have cx : Hid (∀ (a : Nat) (W : World), a < 2 ^ 128 → Calls Try.prog 46 #[.bool six, adV a] W fun e w' => e = .returned (.tuple #[adV (nextE six a).1, .int .i64 (nextE six a).2]) ∧ Below W.heap.size W w') := fun a W h => Addr.next_any six a W h
  clear hn hfit
  go_enter Try.func21, Try.ntmps21
  go_wp2_with fail
  go_at_call 16; refine (cc _ hl).mono ?_; rintro e w1 ⟨rfl, hb1⟩
  clear cc hl
  obtain ⟨Y, hY⟩ : ∃ Y, Y = w1.alloc (.cells #[.int .u64 0, .int .u64 0] 25) := ⟨_, rfl⟩
  have H0 : Hid (OwnC w Y (.slice (some ⟨w1.heap.size, 0, none⟩) 1 1) (0 :: partsC (l.take 0) six)) := by
    rw [hY]
    exact ⟨World.ownsRow_lit (base := w.heap.size) w1 #[.int .u64 0, .int .u64 0] 1 hb1.size (by decide) rfl, below_new hb1 _⟩
  go_upto_region 5 with fail
  rw [← hY]
  clear hY hb1
  go_wp2_with fail
  go_loopw [7, 23] (fun v q wr => ∃ k : Nat, k ≤ n ∧ q = .int .i64 (k : Int) ∧ Hid (OwnC w wr v (0 :: partsC (l.take k) six))) (fun _ q _ => n - (Go.RowKit.intOf q).toNat)
  case atStart => exact ⟨0, by omega, rfl, H0⟩
  case round =>
    obtain ⟨k, hk, rfl, HI⟩ := hrel
    clear H0
    by_cases hlt : k < n
    · have hkz : k < l.length := by rw [← HN.out]; exact hlt
      obtain ⟨g1, i1, rfl, hg1, ax⟩ := Tr.HasRts.cell (HR.out _ HI.out.bl) k hkz
      obtain ⟨a0, a1, a2, a3, a4, a5⟩ := six_at ax
      clear ax
      have HS : Hid (partsC (l.take (k + 1)) six = partsC (l.take k) six ++ partC six l[k]) := partsC_snoc l six k hkz
      have hfk := HF.out l[k] (List.getElem_mem hkz)
      have hpl := partsC_len (l.take k) six
      rw [List.length_take] at hpl
      have c1 : ∀ W : World, Calls Try.prog 45 #[.agg #[.bool l[k].pf.six, .int .u64 (hiN l[k].pf.n : Int), .int .u64 (loN l[k].pf.n : Int), .int .i64 l[k].pf.len]] W fun e w' => e = .returned (.tuple #[.agg #[.int .u64 (hiN (lastE l[k].pf).1 : Int), .int .u64 (loN (lastE l[k].pf).1 : Int)], .int .i64 (lastE l[k].pf).2]) ∧ Below W.heap.size W w' := fun W => cl.out l[k].pf W hfk.1
      have c2 : ∀ W : World, Calls Try.prog 46 #[.bool six, .agg #[.int .u64 (hiN (lastE l[k].pf).1 : Int), .int .u64 (loN (lastE l[k].pf).1 : Int)]] W fun e w' => e = .returned (.tuple #[.agg #[.int .u64 (hiN (nextE six (lastE l[k].pf).1).1 : Int), .int .u64 (loN (nextE six (lastE l[k].pf).1).1 : Int)], .int .i64 (nextE six (lastE l[k].pf).1).2]) ∧ Below W.heap.size W w' := fun W => cx.out (lastE l[k].pf).1 W (last_lt _ hfk.1.2)
      have HP : Hid (partC six l[k] = if l[k].pf.six = six then [l[k].pf.n, (nextE six (lastE l[k].pf).1).1] else []) := rfl
      have hpl2 : (partsC (l.take k) six).length ≤ 512 := by omega
      generalize partC six l[k] = PC at HS HP
      obtain ⟨x, hx⟩ : ∃ x : Rt, x = l[k] := ⟨_, rfl⟩
      rw [← hx] at a0 a1 a2 a3 a4 a5 c1 c2 HP
      clear hx hfk hpl
      obtain ⟨⟨s0, pn, pl⟩, ⟨ak, ai⟩⟩ := x
      simp only at a0 a1 a2 a3 a4 a5 c1 c2 HP
      generalize (lastE ⟨s0, pn, pl⟩).1 = la at *
      generalize (lastE ⟨s0, pn, pl⟩).2 = lz at *
      generalize (nextE six la).1 = na at *
      generalize (nextE six la).2 = nz at *
      have hki : (k : Int) < (n : Int) := by omega
      obtain ⟨X, hX⟩ : ∃ X, X = wr.alloc (.cells #[.bool s0, .int .u64 (hiN pn : Int), .int .u64 (loN pn : Int), .int .i64 pl, .int .u8 (ak : Int), .int .i64 ai] 32) := ⟨_, rfl⟩
      have hbX : Below wr.heap.size wr X := by rw [hX]; exact below_new (Below.refl _ _) _
      have r0 : RowAt X wr.heap.size [.bool s0, .int .u64 (hiN pn : Int), .int .u64 (loN pn : Int), .int .i64 pl, .int .u8 (ak : Int), .int .i64 ai] 32 := by rw [hX]; exact RowAt.new _ _ _
      go_upto_region 8 with fail
      rw [← hX]
      replace HI : Hid (OwnC w X u7 (0 :: partsC (l.take k) six)) := HI.out.below hbX
      clear hX hbX a0 a1 a2 a3 a4 a5 hg1
      generalize wr.heap.size = gs at r0 ⊢
      by_cases hs : s0 = six
      · subst hs
        have HP2 : Hid (PC = [pn, na]) := by rw [HP.out, if_pos rfl]; exact rfl
        clear HP
        obtain ⟨y0, y1, y2, y3, y4, y5, yf⟩ := six_of r0
        go_wp2_with fail
        go_at_call 45; refine (c1 _).mono ?_; rintro e w2 ⟨rfl, hb2⟩
        replace HI : Hid (OwnC w w2 u7 (0 :: partsC (l.take k) s0)) := HI.out.below hb2
        replace r0 := RowAt.below r0 hb2
        clear y0 y1 y2 y3 y4 y5 yf hb2 c1
        obtain ⟨X2, hX⟩ : ∃ X2, X2 = w2.alloc (.cells #[.int .u64 (hiN la : Int), .int .u64 (loN la : Int)] 25) := ⟨_, rfl⟩
        have hbX : Below w2.heap.size w2 X2 := by rw [hX]; exact below_new (Below.refl _ _) _
        have r1 : RowAt X2 w2.heap.size [.int .u64 (hiN la : Int), .int .u64 (loN la : Int)] 25 := by rw [hX]; exact RowAt.new _ _ _
        replace HI : Hid (OwnC w X2 u7 (0 :: partsC (l.take k) s0)) := HI.out.below hbX
        replace r0 := RowAt.below r0 hbX
        go_upto_region 10 with fail
        rw [← hX]
        clear hX hbX
        generalize w2.heap.size = gl at r1 ⊢
        obtain ⟨z0, z1, zf⟩ := cells2 r1
        go_wp2_with fail
        go_at_call 46; refine (c2 _).mono ?_; rintro e w3 ⟨rfl, hb2⟩
        replace HI : Hid (OwnC w w3 u7 (0 :: partsC (l.take k) s0)) := HI.out.below hb2
        replace r0 := RowAt.below r0 hb2
        clear z0 z1 zf hb2 c2 r1
        obtain ⟨X3, hX⟩ : ∃ X3, X3 = w3.alloc (.cells #[.int .u64 (hiN na : Int), .int .u64 (loN na : Int)] 25) := ⟨_, rfl⟩
        have hbX : Below w3.heap.size w3 X3 := by rw [hX]; exact below_new (Below.refl _ _) _
        have r1 : RowAt X3 w3.heap.size [.int .u64 (hiN na : Int), .int .u64 (loN na : Int)] 25 := by rw [hX]; exact RowAt.new _ _ _
        replace HI : Hid (OwnC w X3 u7 (0 :: partsC (l.take k) s0)) := HI.out.below hbX
        replace r0 := RowAt.below r0 hbX
        go_upto_region 11 with fail
        rw [← hX]
        clear hX hbX
        generalize w3.heap.size = gn at r1 ⊢
        obtain ⟨y0, y1, y2, y3, y4, y5, yf⟩ := six_of r0
        obtain ⟨z0, z1, zf⟩ := cells2 r1
        obtain ⟨v', w4, hrun, hO⟩ := (HI.out.below (below_new (Below.refl _ X3) (.cells #[.int .u64 (hiN pn : Int), .int .u64 (loN pn : Int), .int .u64 (hiN na : Int), .int .u64 (loN na : Int)] 25))).app (lit_two X3 pn na) (by simp only [List.length_cons, List.length_nil]; omega)
        have HO : Hid (OwnC w w4 v' (0 :: partsC (l.take (k + 1)) s0)) := by
          show OwnC _ _ _ _
          rw [HS.out, HP2.out]
          exact hO
        clear hO HI HS HP2
        go_wp2_with fail
        go_roundw
        case rel => exact ⟨k + 1, by omega, by go_num, HO⟩
        case measure => simp [Go.RowKit.intOf]; omega
      · have hs2 : six = !s0 := by cases s0 <;> cases six <;> simp_all
        have HO : Hid (OwnC w X u7 (0 :: partsC (l.take (k + 1)) six)) := by
          show OwnC _ _ _ _
          rw [HS.out, HP.out, if_neg hs, List.append_nil]
          exact HI.out
        clear HP HS HI c1 c2
        subst hs2
        obtain ⟨y0, y1, y2, y3, y4, y5, yf⟩ := six_of r0
        go_wp2_with fail
        go_roundw
        case rel => exact ⟨k + 1, by omega, by go_num, HO⟩
        case measure => simp [Go.RowKit.intOf]; omega
    · have hkn2 : k = n := by omega
      subst hkn2
      have hkd : decide ((k : Int) < (k : Int)) = false := decide_eq_false (by omega)
      have hI := HI.out
      rw [HN.out, List.take_length] at hI
      have hpl := partsC_len l six
      have hnl := HN.out
      obtain ⟨g, cap, rfl, hgw, hc1, hc2⟩ := hI.slice (by simp)
      have cs := sort_any (0 :: partsC l six) g cap (0 :: partsC l six).length w.heap.size wr rfl (by simp only [List.length_cons]; omega) HFE.out hI.own hgw hI.bl.size
      have hbl : Hid (Below w.heap.size w wr) := hI.bl
      have HSZ : Hid ((0 :: partsC l six).length ≤ 1000) := by show _ ≤ _; simp only [List.length_cons]; omega
      generalize (0 :: partsC l six).length = N at *
      clear HI hI hpl hnl HFE HF cl cx HR
      have HSO : Hid (∀ d', (∀ z, z ∈ d' ↔ z ∈ 0 :: partsC l six) → sortN d' = sortN (0 :: partsC l six)) := fun d' h => sortN_of (up_sortN d') (fun z => by rw [mem_sortN, h])
      go_wp2_with fail
      go_at_call 47; refine cs.mono ?_; rintro e w5 ⟨rfl, d', h1, h2, h3, h4, h5, h6⟩
      have cp := compact_any d' g cap N w.heap.size w5 h2.symm HSZ.out h1 h4 hgw (Nat.le_trans hbl.out.size h6) ⟨hc1, hc2⟩
      rw [HSO.out d' h3] at cp
      have HB5 : Hid (Below w.heap.size w w5) := hbl.out.trans h5
      clear cs h1 h2 h3 h4 h5 h6 hbl HSO
      obtain ⟨R, hR⟩ : ∃ R, R = sortN (0 :: partsC l six) := ⟨_, rfl⟩
      have HRR : Hid (R = sortN (0 :: partsC l six)) := hR
      rw [← hR] at cp
      clear hR
      go_wp2_with fail
      go_at_call 48; refine cp.mono ?_; rintro e w6 ⟨q, rfl, h7, h8⟩
      have hq : q = R.length := by have := h7.1; rw [adCs_len] at this; omega
      have HO : Hid (OwnC w w6 (.slice (some ⟨g, 0, none⟩) q cap) R) := ⟨by rw [← hq]; exact h7, HB5.out.trans h8⟩
      clear cp h7 h8 hq
      go_wp2_with fail
      go_ret2
      exact ⟨_, rfl, by rw [← HRR.out]; exact HO.out⟩
theorem OwnC.has {w W : World} {v : Value} {m : List Nat} (h : OwnC w W v m) : HasAds W v m := hasRow_own h.own
set_option maxHeartbeats 2000000 in
theorem cuts_bad (v : Value) (six : Bool) (w : World) (cc : ∀ W, Below w.heap.size w W → Calls Try.prog 16 #[v] W fun e w' => e = .returned (.int .i64 2) ∧ Below W.heap.size W w') :
    Calls Try.prog 21 #[v, .bool six] w fun e w' => e = .returned (.tuple #[.slice none 0 0, .int .i64 2]) ∧ Below w.heap.size w w' := by
  go_enter Try.func21, Try.ntmps21
  go_wp2_with fail
  go_at_call 16; refine (cc _ (Below.refl _ _)).mono ?_; rintro e w1 ⟨rfl, hb1⟩
  go_wp2_with fail
  go_ret2
  exact ⟨rfl, hb1⟩
/-- trie.Cuts -/
theorem cuts_any (l : List Rt) (v : Value) (six : Bool) (w : World) (hl : HasRts w v l) (hfit : ∀ r ∈ l, FitR r) :
    Calls Try.prog 21 #[v, .bool six] w fun e w' => ∃ o n c, e = .returned (.tuple #[.slice o n c, .int .i64 (cutsT l six).2]) ∧ HasAds w' (.slice o n c) (cutsT l six).1 ∧ Below w.heap.size w w' := by
  obtain ⟨o, c, rfl, hc1, hc2⟩ := Lk.HasRow.slice hl
  have cc := fun W h => Go.Proofs.Ytjgieaijdkmadaa.Tr.check_any l (.slice o l.length c) W h hfit
  cases hok : okT l with
  | false =>
    have e : cutsT l six = ([], 2) := by unfold cutsT; rw [hok]; rfl
    rw [e]
    refine (cuts_bad _ six w (fun W hb => ?_)).mono ?_
    · have := cc W (hl.keep hb)
      unfold checkT at this
      rw [hok] at this
      exact this
    · rintro e w' ⟨rfl, hb⟩
      exact ⟨none, 0, 0, rfl, Lk.hasRow_nil _ 2, hb⟩
  | true =>
    have e : cutsT l six = (sortN (0 :: partsC l six), 0) := by unfold cutsT; rw [hok]; rfl
    rw [e]
    have hlen := ((Go.Proofs.Ytjgieaijdkmadaa.Tr.okT_iff l).1 hok).1
    refine (cuts_walk l o _ c six w rfl hlen hl hfit (fun W h => ?_)).mono ?_
    · have := cc W h
      unfold checkT at this
      rw [hok] at this
      exact this
    · rintro e w' ⟨v, rfl, hO⟩
      obtain ⟨o2, c2, e2, _⟩ := Lk.HasRow.slice hO.has
      subst e2
      exact ⟨_, _, _, rfl, hO.has, hO.bl⟩
end Go.Proofs.Ytjgieaijdkmadaa.Ct
