/- slices.Compact, of addresses that do not fall, in a row that the caller owns. -/
import Derived.Test.YtaaedgfacnaggaaTs06
import Derived.Shelf.Spec.BitsCarry
import Derived.Test.YtaaedgfacnaggaaTs01
import Derived.Test.YtaaedgfacnaggaaTs03
import Derived.Laws.OwnMore
import Derived.Lib.SliceRun
set_option linter.unusedVariables false
namespace Go.Proofs.Ytaaedgfacnaggaa.Addr
open Go.RowKit

theorem add1 (x : Nat) (w : World) : (callFunc 57 #[.int .u64 (x : Int), .int .u64 1, .int .u64 0]).run Try.prog w = .ok (.value (.tuple #[.int .u64 (((x : Int) + 1) % 18446744073709551616), .int .u64 (((x : Int) + 1) / 18446744073709551616)])) w := by
  rw [run_callFunc_extern Try.func57 (by kernel_rfl) (by kernel_rfl) (by kernel_rfl) (e := add64Entry) (by kernel_rfl), run_add64 (x : Int) 1 0 (by omega) (by omega) (by omega) (by omega)]
  simp only [Result.andThen, Int.add_zero]
theorem next_hi (n : Nat) (h : n + 1 < 2 ^ 128) : IntKind.u64.wrap ((hiN n : Int) + ((loN n : Int) + 1) / 18446744073709551616) = (hiN (n + 1) : Int) := by
  rw [IntKind.wrap_u64]; unfold hiN loN; omega
theorem next_lo (n : Nat) : ((loN n : Int) + 1) % 18446744073709551616 = (loN (n + 1) : Int) := by unfold loN; omega
set_option maxHeartbeats 2000000 in
theorem next_any (six : Bool) (n : Nat) (w : World) (hn : n < 2 ^ 128) : Calls Try.prog 34 #[.bool six, adV n] w fun e w' => e = .returned (.tuple #[adV (nextE six n).1, .int .i64 (nextE six n).2]) ∧ Below w.heap.size w w' := by
  have cr := fun w => right_any six n w hn
  have hz : adV 0 = .agg #[.int .u64 0, .int .u64 0] := rfl
  cases hr : rightB six n
  · rw [hr] at cr
    have e1 : nextE six n = (0, 2) := by unfold nextE; rw [hr]; rfl
    rw [e1]
    simp only [hz]
    unfold adV at *
    generalize hiN n = h at *
    generalize loN n = l at *
    clear hr e1 hn hz
    obtain ⟨X, hX⟩ : ∃ X, X = (w.alloc (.cells #[.int .u64 (h : Int), .int .u64 (l : Int)] 25)).alloc (.cells #[.int .u64 0, .int .u64 0] 25) := ⟨_, rfl⟩
    have hB0 : Below w.heap.size w X := by rw [hX]; exact below_new (below_new (Below.refl _ _) _) _
    have r1 : RowAt X (w.heap.size + 1) [.int .u64 0, .int .u64 0] 25 := by rw [hX, ← World.size_alloc w (.cells #[.int .u64 (h : Int), .int .u64 (l : Int)] 25)]; exact RowAt.new _ _ _
    go_enter Try.func34, Try.ntmps34
    go_wp2_with fail
    go_at_call 19; refine (cr _).mono ?_; rintro e w2 ⟨rfl, hb2⟩
    rw [← hX] at hb2
    have hW := below2 hB0 hb2
    obtain ⟨q0, q1, qf⟩ := cells2 (r1.below hb2)
    clear hX cr r1 hB0 hb2
    go_wp2_with fail
    (try simp only [Exit.inBlock, Exit.then])
    refine bodyPost_ret (v := .tuple #[.agg #[.int .u64 0, .int .u64 0], .int .i64 2]) ?_ rfl ⟨rfl, ?_⟩
    · rw [results_cell_tmp rfl]
      go_simp
    · repeat' (first | with_reducible exact hW | with_reducible apply below_new | with_reducible refine bset ?_ (by omega))
  · rw [hr] at cr
    have hfd := field_style
    have cs := fun w => styleOf_any six w
    have ct := fun w => tail_any (wideN six) w (wideN_le six)
    obtain ⟨s1, s2, s3, hsa⟩ := style_arr six
    rw [hsa] at cs
    clear hsa
    have heq := fun w => ad_eql n (freeN (wideN six)) w
    have hgd := ad_guard
    have hf : freeN (wideN six) = 2 ^ wideN six - 1 := rfl
    have hlt : n < 2 ^ wideN six := of_decide_eq_true hr
    have hw128 : (2 : Nat) ^ wideN six ≤ 2 ^ 128 := Nat.pow_le_pow_right (by decide) (wideN_le six)
    obtain ⟨X, hX⟩ : ∃ X, X = (w.alloc (.cells #[.int .u64 (hiN n : Int), .int .u64 (loN n : Int)] 25)).alloc (.cells #[.int .u64 0, .int .u64 0] 25) := ⟨_, rfl⟩
    have hB0 : Below w.heap.size w X := by rw [hX]; exact below_new (below_new (Below.refl _ _) _) _
    have r0 : RowAt X w.heap.size [.int .u64 (hiN n : Int), .int .u64 (loN n : Int)] 25 := by rw [hX]; exact (RowAt.new _ _ _).alloc _
    have r1 : RowAt X (w.heap.size + 1) [.int .u64 0, .int .u64 0] 25 := by rw [hX, ← World.size_alloc w (.cells #[.int .u64 (hiN n : Int), .int .u64 (loN n : Int)] 25)]; exact RowAt.new _ _ _
    by_cases hm : n = 2 ^ wideN six - 1
    · have e1 : nextE six n = (0, 3) := by unfold nextE; rw [hr, if_pos rfl, if_pos hm]
      rw [e1]
      simp only [hz]
      have hd : decide (n = freeN (wideN six)) = true := decide_eq_true (hm.trans hf.symm)
      rw [hd] at heq
      unfold adV at *
      generalize freeN (wideN six) = f at *
      generalize hiN f = fh at *
      generalize loN f = fl at *
      generalize hiN n = h at *
      generalize loN n = l at *
      generalize (wideN six : Int) = wd at *
      clear hr e1 hn hz hm hd hf hlt hw128
      go_enter Try.func34, Try.ntmps34
      go_wp2_with fail
      go_at_call 19; refine (cr _).mono ?_; rintro e w2 ⟨rfl, hb2⟩
      rw [← hX] at hb2
      have hW := below2 hB0 hb2
      have r0 := r0.below hb2
      have r1 := r1.below hb2
      clear hX cr hB0 hb2
      have q0 : ∀ p : Bl w2, p.W.cell? ⟨w.heap.size, 0, none⟩ = some (.int .u64 (h : Int)) := fun p => (r0.below p.h).cell 0
      have q1 : ∀ p : Bl w2, p.W.cell? ⟨w.heap.size, 1, none⟩ = some (.int .u64 (l : Int)) := fun p => (r0.below p.h).cell 1
      haveI := bl_ne w2
      go_wp2_with fail
      refine wp_region_bl (by kernel_rfl) (by kernel_rfl) ?_
      repeat (quiet_step (first | (go_at_call 39; exact bl_call (cs _)) | (go_at_call 38; exact bl_call (ct _))))
      refine wpQuiet_nil ?_
      intro wq hw'
      obtain ⟨⟨wz, hq⟩, hw2⟩ := hw'
      subst hw2
      have hW := below2 hW hq
      clear q0 q1
      obtain ⟨q0, q1, qf⟩ := cells2 (r1.below hq)
      clear cs ct hfd r0 r1 hq this heq
      go_wp2_with fail
      (try simp only [Exit.inBlock, Exit.then])
      refine bodyPost_ret (v := .tuple #[.agg #[.int .u64 0, .int .u64 0], .int .i64 3]) ?_ rfl ⟨rfl, ?_⟩
      · rw [results_cell_tmp rfl]
        go_simp
      · repeat' (first | with_reducible exact hW | with_reducible apply below_new | with_reducible refine bset ?_ (by omega))
    · have e1 : nextE six n = (n + 1, 0) := by unfold nextE; rw [hr, if_pos rfl, if_neg hm]
      rw [e1]
      have hd : decide (n = freeN (wideN six)) = false := decide_eq_false (fun hc => hm (hc.trans hf))
      rw [hd] at heq
      have a1 := next_hi n (by omega)
      have a2 := next_lo n
      have hadd := fun w => add1 (loN n) w
      rw [a2] at hadd
      have hcy : (((loN n : Int) + 1) / 18446744073709551616 = 0 ∨ ((loN n : Int) + 1) / 18446744073709551616 = 1) := by have := loN_lt n; omega
      unfold adV at *
      simp only
      generalize ((loN n : Int) + 1) / 18446744073709551616 = cy at *
      generalize hiN (n + 1) = rh at *
      generalize loN (n + 1) = rl at *
      generalize freeN (wideN six) = f at *
      generalize hiN f = fh at *
      generalize loN f = fl at *
      generalize hiN n = h at *
      generalize loN n = l at *
      generalize (wideN six : Int) = wd at *
      clear hr e1 hn hz hm hd hf hlt hw128 a2 hcy
      go_enter Try.func34, Try.ntmps34
      go_wp2_with fail
      go_at_call 19; refine (cr _).mono ?_; rintro e w2 ⟨rfl, hb2⟩
      rw [← hX] at hb2
      have hW := below2 hB0 hb2
      have r0 := r0.below hb2
      have r1 := r1.below hb2
      clear hX cr hB0 hb2
      have q0 : ∀ p : Bl w2, p.W.cell? ⟨w.heap.size, 0, none⟩ = some (.int .u64 (h : Int)) := fun p => (r0.below p.h).cell 0
      have q1 : ∀ p : Bl w2, p.W.cell? ⟨w.heap.size, 1, none⟩ = some (.int .u64 (l : Int)) := fun p => (r0.below p.h).cell 1
      haveI := bl_ne w2
      go_wp2_with fail
      refine wp_region_bl (by kernel_rfl) (by kernel_rfl) ?_
      repeat (quiet_step (first | (go_at_call 39; exact bl_call (cs _)) | (go_at_call 38; exact bl_call (ct _))))
      refine wpQuiet_nil ?_
      intro wq hw'
      obtain ⟨⟨wz, hq⟩, hw2⟩ := hw'
      subst hw2
      have hW := below2 hW hq
      clear q0 q1
      obtain ⟨q0, q1, qf⟩ := cells2 (r0.below hq)
      obtain ⟨p0, p1, pf⟩ := cells2 (r1.below hq)
      clear cs ct hfd r0 r1 hq this heq
      go_wp2_with fail
      (try simp only [Exit.inBlock, Exit.then])
      refine bodyPost_ret (v := .tuple #[.agg #[.int .u64 (rh : Int), .int .u64 (rl : Int)], .int .i64 0]) ?_ rfl ⟨rfl, ?_⟩
      · rw [results_cell_tmp rfl]
        go_simp
      · repeat' (first | with_reducible exact hW | with_reducible apply below_new | with_reducible refine bset ?_ (by omega))
end Go.Proofs.Ytaaedgfacnaggaa.Addr
namespace Go.Proofs.Ytaaedgfacnaggaa.Ct
open Go.RowKit
open Go.Proofs.Ytaaedgfacnaggaa.Addr (hiN loN)
open Go.Proofs.Ytaaedgfacnaggaa.Lk (HasRow)
def adC (n : Nat) : List Value := [.int .u64 (hiN n : Int), .int .u64 (loN n : Int)]
def adCs (l : List Nat) : List Value := l.flatMap adC
theorem adCs_len (l : List Nat) : (adCs l).length = l.length * 2 := by
  induction l with
  | nil => rfl
  | cons s l ih =>
    show (adC s ++ adCs l).length = _
    rw [List.length_append, ih, List.length_cons]
    show 2 + _ = _
    omega
theorem adCs_app (a b : List Nat) : adCs (a ++ b) = adCs a ++ adCs b := by unfold adCs; rw [List.flatMap_append]
theorem one_ads (l : List Nat) : ∀ x ∈ adCs l, x.oneCell' = true := by
  intro x hx
  obtain ⟨p, _, h⟩ := List.mem_flatMap.1 hx
  simp only [adC, List.mem_cons, List.not_mem_nil, or_false] at h
  rcases h with rfl | rfl <;> rfl
def HasAds (W : World) (v : Value) (l : List Nat) : Prop := HasRow W v 2 l.length (adCs l)
theorem HasAds.keep {W W' : World} {v : Value} {l : List Nat} (h : HasAds W v l) (hb : Below W.heap.size W W') : HasAds W' v l := Lk.HasRow.keep h hb
theorem adCs_at (l : List Nat) : ∀ j (h : j < l.length), (adCs l)[2 * j]? = some (.int .u64 (hiN l[j] : Int)) ∧ (adCs l)[2 * j + 1]? = some (.int .u64 (loN l[j] : Int)) := by
  induction l with
  | nil => intro j h; simp at h
  | cons p ps ih =>
    intro j h
    cases j with
    | zero => exact ⟨rfl, rfl⟩
    | succ j =>
      have := ih j (by simpa using h)
      rw [show adCs (p :: ps) = .int .u64 (hiN p : Int) :: .int .u64 (loN p : Int) :: adCs ps from rfl, show 2 * (j + 1) = 2 * j + 1 + 1 by omega]
      simp only [List.getElem?_cons_succ, List.getElem_cons_succ]
      exact this
theorem HasAds.cell {W : World} {o : Option Addr} {m cap : Nat} {l : List Nat} (h : HasAds W (.slice o m cap) l) (j : Nat) (hj : j < l.length) : ∃ b i, o = some ⟨b, i, none⟩ ∧ b < W.heap.size ∧ W.cell? ⟨b, i + j * 2, none⟩ = some (.int .u64 (hiN l[j] : Int)) ∧ W.cell? ⟨b, i + j * 2 + 1, none⟩ = some (.int .u64 (loN l[j] : Int)) := by
  obtain ⟨_, b, i, e, hb, hc⟩ := Lk.HasRow.at h (by omega)
  have h2 := adCs_at l j hj
  exact ⟨b, i, e, hb, by rw [hc (j * 2) (by omega), Nat.mul_comm]; exact h2.1, by rw [Nat.add_assoc, hc (j * 2 + 1) (by omega), Nat.mul_comm]; exact h2.2⟩
theorem adCs_set (m : List Nat) (x : Nat) : ∀ j, j < m.length → ((adCs m).set (j * 2) (.int .u64 (hiN x : Int))).set (j * 2 + 1) (.int .u64 (loN x : Int)) = adCs (m.set j x) := by
  induction m with
  | nil => intro j h; simp at h
  | cons y m ih =>
    intro j h
    cases j with
    | zero => rfl
    | succ j =>
      have := ih j (by simpa using h)
      rw [show adCs (y :: m) = .int .u64 (hiN y : Int) :: .int .u64 (loN y : Int) :: adCs m from rfl, show (j + 1) * 2 = j * 2 + 1 + 1 by omega, List.set_cons_succ, List.set_cons_succ, List.set_cons_succ, List.set_cons_succ, this]
      rfl
theorem adCs_take (l : List Nat) : ∀ j, (adCs l).take (j * 2) = adCs (l.take j) := by
  induction l with
  | nil => intro j; simp [adCs]
  | cons x l ih =>
    intro j
    cases j with
    | zero => simp [adCs]
    | succ j =>
      show (adC x ++ adCs l).take ((j + 1) * 2) = adC x ++ adCs (l.take j)
      rw [List.take_append, ← ih j]
      congr 1
      · rw [List.take_of_length_le (by show 2 ≤ _; omega)]
      · show (adCs l).take ((j + 1) * 2 - 2) = _
        congr 1
        omega
/-- rising numbers -/
abbrev Up (l : List Nat) : Prop := l.Pairwise (· < ·)
theorem ext_up : ∀ (a b : List Nat), Up a → Up b → (∀ z, z ∈ a ↔ z ∈ b) → a = b := by
  intro a
  induction a with
  | nil =>
    intro b _ _ h
    cases b with
    | nil => rfl
    | cons y b => exact absurd ((h y).2 List.mem_cons_self) (by simp)
  | cons x a ih =>
    intro b ha hb h
    cases b with
    | nil => exact absurd ((h x).1 List.mem_cons_self) (by simp)
    | cons y b =>
      have h1 := List.pairwise_cons.1 ha
      have h2 := List.pairwise_cons.1 hb
      have hxy : x = y := by
        rcases List.mem_cons.1 ((h x).1 List.mem_cons_self) with e | e
        · exact e
        · rcases List.mem_cons.1 ((h y).2 List.mem_cons_self) with e2 | e2
          · exact e2.symm
          · have := h2.1 x e; have := h1.1 y e2; omega
      subst hxy
      congr 1
      refine ih b h1.2 h2.2 (fun z => ?_)
      constructor
      · intro hz
        rcases List.mem_cons.1 ((h z).1 (List.mem_cons_of_mem _ hz)) with e | e
        · subst e; have := h1.1 z hz; omega
        · exact e
      · intro hz
        rcases List.mem_cons.1 ((h z).2 (List.mem_cons_of_mem _ hz)) with e | e
        · subst e; have := h2.1 z hz; omega
        · exact e
/-- a number put where it belongs, once -/
def insN (l : List Nat) (a : Nat) : List Nat := l.filter (fun x => decide (x < a)) ++ a :: l.filter (fun x => decide (a < x))
theorem mem_insN (l : List Nat) (a z : Nat) : z ∈ insN l a ↔ z = a ∨ z ∈ l := by
  unfold insN
  simp only [List.mem_append, List.mem_filter, List.mem_cons, decide_eq_true_eq]
  constructor
  · rintro (h | h | h)
    · exact .inr h.1
    · exact .inl h
    · exact .inr h.1
  · rintro (h | h)
    · exact .inr (.inl h)
    · rcases Nat.lt_trichotomy z a with g | g | g
      · exact .inl ⟨h, g⟩
      · exact .inr (.inl g)
      · exact .inr (.inr ⟨h, g⟩)
theorem up_insN {l : List Nat} (h : Up l) (a : Nat) : Up (insN l a) := by
  unfold insN
  refine List.pairwise_append.2 ⟨h.sublist List.filter_sublist, List.pairwise_cons.2 ⟨fun z hz => by simpa using (List.mem_filter.1 hz).2, h.sublist List.filter_sublist⟩, fun x hx y hy => ?_⟩
  have h1 := (List.mem_filter.1 hx).2
  simp only [decide_eq_true_eq] at h1
  rcases List.mem_cons.1 hy with rfl | hy
  · exact h1
  · have h2 := (List.mem_filter.1 hy).2
    simp only [decide_eq_true_eq] at h2
    omega
/-- numbers in order, each once -/
def sortN (l : List Nat) : List Nat := l.foldl insN []
theorem sortN_from (l : List Nat) : ∀ out, Up out → Up (l.foldl insN out) ∧ ∀ z, z ∈ l.foldl insN out ↔ z ∈ out ∨ z ∈ l := by
  induction l with
  | nil => intro out h; exact ⟨h, fun z => by simp⟩
  | cons a l ih =>
    intro out h
    obtain ⟨i1, i2⟩ := ih (insN out a) (up_insN h a)
    refine ⟨i1, fun z => ?_⟩
    rw [List.foldl_cons, i2, mem_insN, List.mem_cons]
    constructor
    · rintro ((h | h) | h)
      · exact .inr (.inl h)
      · exact .inl h
      · exact .inr (.inr h)
    · rintro (h | h | h)
      · exact .inl (.inr h)
      · exact .inl (.inl h)
      · exact .inr h
theorem up_sortN (l : List Nat) : Up (sortN l) := (sortN_from l [] List.Pairwise.nil).1
theorem mem_sortN (l : List Nat) (z : Nat) : z ∈ sortN l ↔ z ∈ l := by
  have := (sortN_from l [] List.Pairwise.nil).2 z
  unfold sortN
  simpa using this
theorem sortN_of {l m : List Nat} (hm : Up m) (h : ∀ z, z ∈ m ↔ z ∈ l) : m = sortN l := ext_up _ _ hm (up_sortN l) (fun z => by rw [h, mem_sortN])
end Go.Proofs.Ytaaedgfacnaggaa.Ct
namespace Go.Proofs.Ytaaedgfacnaggaa.Ct
/-- numbers that do not fall -/
abbrev Le (l : List Nat) : Prop := l.Pairwise (· ≤ ·)
theorem Le.at {d : List Nat} (h : Le d) {j k : Nat} (hj : j ≤ k) (hk : k < d.length) (hj2 : j < d.length) : d[j] ≤ d[k] := by
  rcases Nat.lt_or_eq_of_le hj with g | g
  · exact List.pairwise_iff_getElem.1 h j k hj2 hk g
  · subst g; exact Nat.le_refl _
/-- what is there while numbers are put together: M the row now, q where the next one goes, j the one that is looked at -/
structure CI (d M : List Nat) (q j : Nat) : Prop where
  len : M.length = d.length
  q1 : 1 ≤ q
  qj : q < j
  jn : j ≤ d.length
  up : Up (M.take q)
  mem : ∀ z, z ∈ M.take q ↔ z ∈ d.take j
  rest : ∀ t, j - 1 ≤ t → M[t]? = d[t]?
theorem take_mem_succ {d : List Nat} {j : Nat} (h : j < d.length) (z : Nat) : z ∈ d.take (j + 1) ↔ z ∈ d.take j ∨ z = d[j] := by
  rw [List.take_succ_eq_append_getElem h, List.mem_append, List.mem_singleton]
theorem mem_take_at {d : List Nat} {j k : Nat} (h : j < k) (hk : j < d.length) : d[j] ∈ d.take k := by
  rw [List.mem_take_iff_getElem]
  exact ⟨j, by omega, rfl⟩
theorem CI.start {d : List Nat} {k : Nat} (hk : 1 ≤ k) (hn : k < d.length) (hu : Up (d.take k)) (e : d[k] = d[k - 1]) : CI d d k (k + 1) where
  len := rfl
  q1 := hk
  qj := by omega
  jn := by omega
  up := hu
  mem := fun z => by
    rw [take_mem_succ hn]
    constructor
    · intro h; exact .inl h
    · rintro (h | h)
      · exact h
      · rw [h, e]; exact mem_take_at (by omega) (by omega)
  rest := fun t _ => rfl
theorem CI.skip {d M : List Nat} {q j : Nat} (h : CI d M q j) (hj : j < d.length) (e : d[j] = d[j - 1]) : CI d M q (j + 1) where
  len := h.len
  q1 := h.q1
  qj := by have := h.qj; omega
  jn := by omega
  up := h.up
  mem := fun z => by
    rw [h.mem, take_mem_succ hj]
    constructor
    · intro h; exact .inl h
    · rintro (g | g)
      · exact g
      · rw [g, e]; have := h.qj; exact mem_take_at (by omega) (by omega)
  rest := fun t ht => h.rest t (by omega)
theorem CI.put {d M : List Nat} {q j : Nat} (hd : Le d) (h : CI d M q j) (hj : j < d.length) (e : ¬ d[j] = d[j - 1]) : CI d (M.set q d[j]) (q + 1) (j + 1) := by
  have hq := h.qj
  have hqM : q < M.length := by rw [h.len]; omega
  have hlt : d[j - 1] < d[j] := by
    have := hd.at (j := j - 1) (k := j) (by omega) hj (by omega)
    omega
  have htk : (M.set q d[j]).take (q + 1) = M.take q ++ [d[j]] := by
    rw [List.take_succ_eq_append_getElem (by rw [List.length_set]; exact hqM), List.take_set, List.set_eq_of_length_le (by rw [List.length_take]; omega), List.getElem_set_self]
  have hall : ∀ z ∈ M.take q, z ≤ d[j - 1] := fun z hz => by
    have := (h.mem z).1 hz
    obtain ⟨t, ht, rfl⟩ := List.mem_take_iff_getElem.1 this
    exact hd.at (by omega) (by omega) (by omega)
  refine ⟨by rw [List.length_set]; exact h.len, by omega, by omega, by omega, ?_, fun z => ?_, fun t ht => ?_⟩
  · rw [htk]
    refine List.pairwise_append.2 ⟨h.up, List.pairwise_singleton _ _, fun a ha b hb => ?_⟩
    rw [List.mem_singleton] at hb
    subst hb
    have := hall a ha
    omega
  · rw [htk, List.mem_append, List.mem_singleton, h.mem, take_mem_succ hj]
  · rw [List.getElem?_set_ne (by omega)]
    exact h.rest t (by omega)
theorem CI.done {d M : List Nat} {q : Nat} (h : CI d M q d.length) : M.take q = sortN d := sortN_of h.up (fun z => by rw [h.mem, List.take_length])
theorem CI.at0 {d M : List Nat} {q j : Nat} (h : CI d M q j) (hj : j < d.length) (hM : j < M.length) : M[j] = d[j] := by
  have := h.rest j (by omega)
  rw [List.getElem?_eq_getElem hM, List.getElem?_eq_getElem hj] at this
  injection this
theorem up_step {d : List Nat} (hd : Le d) {k : Nat} (hk : 1 ≤ k) (hn : k < d.length) (hu : Up (d.take k)) (e : ¬ d[k] = d[k - 1]) : Up (d.take (k + 1)) := by
  rw [List.take_succ_eq_append_getElem hn]
  refine List.pairwise_append.2 ⟨hu, List.pairwise_singleton _ _, fun a ha b hb => ?_⟩
  rw [List.mem_singleton] at hb
  subst hb
  obtain ⟨t, ht, rfl⟩ := List.mem_take_iff_getElem.1 ha
  have h1 := hd.at (j := t) (k := k - 1) (by omega) (by omega) (by omega)
  have h2 := hd.at (j := k - 1) (k := k) (by omega) hn (by omega)
  omega
theorem up_one {d : List Nat} (h : d.length ≤ 1) : Up d := by
  match d, h with
  | [], _ => exact List.Pairwise.nil
  | [a], _ => exact List.pairwise_singleton _ _
  | a :: b :: l, h => simp at h
theorem sortN_up {d : List Nat} (h : Up d) : sortN d = d := (sortN_of h (fun z => Iff.rfl)).symm
end Go.Proofs.Ytaaedgfacnaggaa.Ct
namespace Go.Proofs.Ytaaedgfacnaggaa.Ct
open Go.RowKit
open Go.Proofs.Ytaaedgfacnaggaa.Addr (hiN loN ad_eql ad_neq ad_guard below_drew)
attribute [-go_sem] Builtin.append_
theorem info_ad : (Try.prog.info? 25).map (fun i => (i.zero, i.size, i.bytes)) = some (some (.agg #[.int .u64 0, .int .u64 0]), 2, 16) := by kernel_rfl
theorem own_below {W W' : World} {m e size k : Nat} {v : Value} {xs : List Value} (h : W.ownsRow m e size v k xs) (hb : Below W.heap.size W W') : W'.ownsRow m e size v k xs := by
  refine ⟨h.1, ?_⟩
  rcases h.2 with h0 | ⟨g, cap, cur, e1, hg, hgb, rest⟩
  · exact .inl h0
  · exact .inr ⟨g, cap, cur, e1, hg, by rw [hb.block g (Array.getElem?_eq_some_iff.1 hgb).1]; exact hgb, rest⟩
theorem own_cut {W : World} {B e sz g n cap m : Nat} {xs : List Value} (h : W.ownsRow B e sz (.slice (some ⟨g, 0, none⟩) n cap) n xs) (hm : m ≤ n) : W.ownsRow B e sz (.slice (some ⟨g, 0, none⟩) m cap) m (xs.take (m * sz)) := by
  have hmn : m * sz ≤ n * sz := Nat.mul_le_mul_right sz hm
  refine ⟨by rw [List.length_take, h.1]; omega, ?_⟩
  rcases h.2 with ⟨e0, _⟩ | ⟨g', cap', cur, e1, hg, hgb, hnc, hcm, hcs, htk⟩
  · cases e0
  · injection e1 with e1 _ e3
    injection e1 with e1
    injection e1 with e1
    subst e1 e3
    exact .inr ⟨g, cap, cur, rfl, hg, hgb, Nat.le_trans hm hnc, hcm, hcs, by rw [← htk, List.take_take, Nat.min_eq_left hmn]⟩
theorem own_put2 {W : World} {B e gr n cap q : Nat} {xs : List Value} (h : W.ownsRow B e 2 (.slice (some ⟨gr, 0, none⟩) n cap) n xs) (v0 v1 : Value) (Z : World) (hZ : Z = (W.setCell ⟨gr, q * 2, none⟩ v0).setCell ⟨gr, q * 2 + 1, none⟩ v1) : Z.ownsRow B e 2 (.slice (some ⟨gr, 0, none⟩) n cap) n ((xs.set (q * 2) v0).set (q * 2 + 1) v1) ∧ W.grownBy Z (some gr) := by
  have s1 := h.stored (q * 2) v0
  have s2 := (s1.1).stored (q * 2 + 1) v1
  subst hZ
  exact ⟨s2.1, ⟨s2.2.os.trans s1.2.os, s2.2.tape.trans s1.2.tape, s2.2.output.trans s1.2.output, Nat.le_trans s1.2.size s2.2.size, fun j hj hn => (s2.2.block j (Nat.lt_of_lt_of_le hj s1.2.size) hn).trans (s1.2.block j hj hn)⟩⟩
def zeroCs : Array Value := #[.int .u64 0, .int .u64 0]
def zerosA (n : Nat) : List Value := (Builtin.zeroCells zeroCs n).toList
theorem zeros_len (n : Nat) : (zerosA n).length = n * 2 := by
  unfold zerosA Builtin.zeroCells
  simp [show zeroCs.size = 2 from rfl]
theorem zeros_one (n : Nat) : ∀ v ∈ zerosA n, v.oneCell' = true := by
  intro v hv
  unfold zerosA Builtin.zeroCells at hv
  simp only [Array.toList_map, List.mem_map, show zeroCs.size = 2 from rfl] at hv
  obtain ⟨i, _, rfl⟩ := hv
  have key : ∀ r, r < 2 → (zeroCs[r]!).oneCell' = true := by decide
  exact key _ (Nat.mod_lt _ (by decide))
theorem clear_ads (w : World) (ty : TypeId) (b o n c : Nat) (hn : 0 < n) (hc : ∀ j, j < n * 2 → (w.cell? ⟨b, o + j, none⟩).isSome = true) (hf : ∀ j, w.frozen? ⟨b, j, none⟩ = false) :
    (Builtin.clear_ #[50] ty #[.slice (some ⟨b, o, none⟩) n c]).run Try.prog w = .ok (.tuple #[]) (w.setCells b o (zerosA n)) := by
  have hv : ∀ w, (zeroValue 25).run Try.prog w = .ok (.agg zeroCs) w := fun w => by simp [zeroValue, show Try.t25.zero = some (.agg zeroCs) from by kernel_rfl]
  have hst := run_storeCells_cells (P := Try.prog) b o (zerosA n) 0 w (by rw [zeros_len]; intro j hj; simpa using hc j hj) (fun j _ => hf _) (zeros_one n)
  simp only [Nat.add_zero] at hst
  have hzc : (Builtin.zeroCells (Value.cells (.agg zeroCs)) n).toList = zerosA n := rfl
  obtain ⟨m, rfl⟩ : ∃ m, n = m + 1 := ⟨n - 1, by omega⟩
  simp [Builtin.clear_, run_underlying Try.underlying50, hv, hzc, hst]
theorem own_sets {B e sz g n cap : Nat} : ∀ (vs : List Value) (o : Nat) {W : World} {xs : List Value}, W.ownsRow B e sz (.slice (some ⟨g, 0, none⟩) n cap) n xs → ∃ ys, (W.setCells g o vs).ownsRow B e sz (.slice (some ⟨g, 0, none⟩) n cap) n ys ∧ ys.take o = xs.take o ∧ W.grownBy (W.setCells g o vs) (some g)
  | [], o, W, xs, h => ⟨xs, h, rfl, ⟨rfl, rfl, rfl, Nat.le_refl _, fun _ _ _ => rfl⟩⟩
  | v :: vs, o, W, xs, h => by
    obtain ⟨s1, s2⟩ := h.stored o v
    obtain ⟨ys, h1, h2, h3⟩ := own_sets vs (o + 1) s1
    refine ⟨ys, h1, ?_, ?_⟩
    · have := congrArg (List.take o) h2
      rw [List.take_take, List.take_take, Nat.min_eq_left (by omega)] at this
      rw [this, List.take_set, List.set_eq_of_length_le (by rw [List.length_take]; omega)]
    · exact ⟨h3.os.trans s2.os, h3.tape.trans s2.tape, h3.output.trans s2.output, Nat.le_trans s2.size h3.size, fun j hj hn => (h3.block j (Nat.lt_of_lt_of_le hj s2.size) hn).trans (s2.block j hj hn)⟩
/-- an owned row's cells -/
theorem own_cells {W : World} {B g n cap j : Nat} {M : List Nat} (h : W.ownsRow B 25 2 (.slice (some ⟨g, 0, none⟩) n cap) n (adCs M)) (hM : M.length = n) (hj : j < M.length) : W.cell? ⟨g, j * 2, none⟩ = some (.int .u64 (hiN M[j] : Int)) ∧ W.cell? ⟨g, j * 2 + 1, none⟩ = some (.int .u64 (loN M[j] : Int)) := by
  have h2 := adCs_at M j hj
  exact ⟨by rw [h.cellAt (j * 2) (by omega), Nat.mul_comm]; exact h2.1, by rw [h.cellAt (j * 2 + 1) (by omega), Nat.mul_comm]; exact h2.2⟩
theorem own_drew {W : World} {m e size k : Nat} {v : Value} {xs : List Value} (h : W.ownsRow m e size v k xs) (n : Nat) : (W.drewN n).ownsRow m e size v k xs := h
set_option maxHeartbeats 8000000 in
set_option maxRecDepth 20000 in
theorem compact_any (d : List Nat) (gr cap n B : Nat) (w : World) (hn : n = d.length) (hlen : n ≤ 1000) (hd : Le d)
    (hown : w.ownsRow B 25 2 (.slice (some ⟨gr, 0, none⟩) n cap) n (adCs d)) (hB : B ≤ gr) (hBw : B ≤ w.heap.size) (hcap : n ≤ cap ∧ cap ≤ 9223372036854775807) :
    Calls Try.prog 37 #[.slice (some ⟨gr, 0, none⟩) n cap] w fun e w' => ∃ k, e = .returned (.slice (some ⟨gr, 0, none⟩) k cap) ∧ w'.ownsRow B 25 2 (.slice (some ⟨gr, 0, none⟩) k cap) k (adCs (sortN d)) ∧ Below B w w' := by
  have hni : (n : Int) ≤ 1000 := by omega
  have HN : Hid (n = d.length) := hn
  have HLE : Hid (Le d) := hd
  have hgd := ad_guard
  by_cases h2 : n < 2
  · have hs : sortN d = d := sortN_up (up_one (by omega))
    rw [hs]
    have h2i : (n : Int) < 2 := by omega
    have HOW : Hid (w.ownsRow B 25 2 (.slice (some ⟨gr, 0, none⟩) n cap) n (adCs d)) := hown
    clear hown hn hd hs h2
    go_enter Try.func37, Try.ntmps37
    go_wp2_with fail
    go_ret
    exact ⟨n, rfl, HOW.out, Below.refl _ _⟩
  have h2i : ¬ (n : Int) < 2 := by omega
  have HOW : Hid (w.ownsRow B 25 2 (.slice (some ⟨gr, 0, none⟩) n cap) n (adCs d)) := hown
  have HU0 : Hid (Up (d.take 1)) := up_one (by rw [List.length_take]; omega)
  clear hown hn hd
  go_enter Try.func37, Try.ntmps37
  go_wp2_with fail
  go_loopw [3] (fun a wr => ∃ k : Nat, 1 ≤ k ∧ k ≤ n ∧ a = .int .i64 (k : Int) ∧ Hid (Up (d.take k)) ∧ Hid (wr.ownsRow B 25 2 (.slice (some ⟨gr, 0, none⟩) n cap) n (adCs d)) ∧ Below B w wr ∧ B ≤ wr.heap.size) (fun a _ => n - (Go.RowKit.intOf a).toNat)
  case atStart => exact ⟨1, by omega, by omega, rfl, HU0, HOW, Below.refl _ _, hBw⟩
  case round =>
    obtain ⟨k, hk1, hkn, rfl, HU, HO, hBr, hBs⟩ := hrel
    clear HOW HU0
    by_cases hlt : k < n
    · obtain ⟨s, hs⟩ : ∃ s, k = s + 1 := ⟨k - 1, by omega⟩
      have hkd : k < d.length := by have := HN.out; omega
      obtain ⟨a0, a1⟩ := own_cells HO.out (HN.out).symm hkd
      obtain ⟨b0, b1⟩ := own_cells HO.out (HN.out).symm (j := s) (by omega)
      have heq : ∀ W, (binOp .eql 25 (.agg #[.int .u64 (hiN d[k] : Int), .int .u64 (loN d[k] : Int)]) (.agg #[.int .u64 (hiN d[s] : Int), .int .u64 (loN d[s] : Int)])).run Try.prog W = .ok (.bool (decide (d[k] = d[s]))) W := fun W => ad_eql d[k] d[s] W
      have hds : d[k - 1]'(by omega) = d[s] := by congr 1; omega
      have HT1 : Hid (decide (d[k] = d[s]) = true → CI d d k (k + 1)) := fun h => CI.start hk1 hkd HU.out (by rw [hds]; exact of_decide_eq_true h)
      have HT0 : Hid (decide (d[k] = d[s]) = false → Up (d.take (k + 1))) := fun h => up_step HLE.out hk1 hkd HU.out (by rw [hds]; exact of_decide_eq_false h)
      generalize decide (d[k] = d[s]) = E at *
      generalize (hiN d[k] : Int) = p0 at *
      generalize (loN d[k] : Int) = p1 at *
      generalize (hiN d[s] : Int) = q0 at *
      generalize (loN d[s] : Int) = q1 at *
      clear hds hkd
      have hki : (k : Int) < (n : Int) := by omega
      have hsi : (s : Int) < (n : Int) := by omega
      have hck : ¬ cap = k := by omega
      have hkc : (k : Int) ≤ (cap : Int) := by omega
      subst hs
      clear HU
      cases E
      · have HU2 : Hid (Up (d.take (s + 1 + 1))) := HT0.out rfl
        clear HT0 HT1
        go_wp2_with fail
        go_quiet (fail)
        go_wp2_with fail
        go_roundw
        case rel => exact ⟨s + 1 + 1, by omega, by omega, by go_num, HU2, HO, by first | exact hBr | exact below_drew hBr | exact below_drewN hBr _, hBs⟩
        case measure => simp [Go.RowKit.intOf]; omega
      · have HI0 : Hid (CI d d (s + 1) (s + 1 + 1)) := HT1.out rfl
        clear HT0 HT1
        go_wp2_with fail
        go_quiet (fail)
        go_wp2_with fail
        obtain ⟨wA, hA⟩ : ∃ wA, wA = wr.drewN nq := ⟨_, rfl⟩
        have HOA : Hid (wA.ownsRow B 25 2 (.slice (some ⟨gr, 0, none⟩) n cap) n (adCs d)) := by rw [hA]; exact own_drew HO.out _
        have hBA : Below B w wA := by rw [hA]; exact below_drewN hBr _
        have hBsA : B ≤ wA.heap.size := by rw [hA]; exact hBs
        rw [← hA]
        clear hA HO hBr hBs a0 a1 b0 b1 heq
        obtain ⟨K, hK⟩ : ∃ K, K = s + 1 := ⟨_, rfl⟩
        rw [← hK] at HI0 hki hck hkc ⊢
        have hKn : K < n := by omega
        clear hK hlt hsi hk1 hkn
        go_loopw [3, 5] (fun a b wr => ∃ (q t : Nat) (M : List Nat), Hid (CI d M q (K + t)) ∧ 1 ≤ t ∧ K + t ≤ n ∧ q < K + t ∧ a = .int .i64 (q : Int) ∧ b = .int .i64 (t : Int) ∧ Hid (wr.ownsRow B 25 2 (.slice (some ⟨gr, 0, none⟩) n cap) n (adCs M)) ∧ Below B w wr ∧ B ≤ wr.heap.size) (fun _ b _ => n - (Go.RowKit.intOf b).toNat)
        case atStart => exact ⟨K, 1, d, HI0, by omega, by omega, by omega, rfl, rfl, HOA, hBA, hBsA⟩
        case round =>
          obtain ⟨q, t, M, HI, ht1, htn, hqt, rfl, rfl, HO, hBr, hBs⟩ := hrel
          clear HOA hBA hBsA HI0
          have hML : M.length = n := by rw [HI.out.len, HN.out]
          by_cases hlt : K + t < n
          · obtain ⟨s, hs⟩ : ∃ s, t = s + 1 := ⟨t - 1, by omega⟩
            have hjd : K + t < d.length := by have := HN.out; omega
            have hjM : K + t < M.length := by omega
            obtain ⟨a0, a1⟩ := own_cells HO.out hML hjM
            obtain ⟨b0, b1⟩ := own_cells HO.out hML (j := K + s) (by omega)
            have e0 := HI.out.at0 hjd hjM
            have e1 : M[K + s]'(by omega) = d[K + s]'(by omega) := by
              have h := HI.out.rest (K + s) (by omega)
              rw [List.getElem?_eq_getElem (by omega), List.getElem?_eq_getElem (by omega)] at h
              injection h
            rw [e0] at a0 a1
            rw [e1] at b0 b1
            rw [show (K + t) * 2 = K * 2 + t * 2 by omega] at a0 a1
            rw [show (K + s) * 2 = K * 2 + s * 2 by omega] at b0 b1
            have hneq : ∀ W, (binOp .neq 25 (.agg #[.int .u64 (hiN d[K + t] : Int), .int .u64 (loN d[K + t] : Int)]) (.agg #[.int .u64 (hiN (d[K + s]'(by omega)) : Int), .int .u64 (loN (d[K + s]'(by omega)) : Int)])).run Try.prog W = .ok (.bool (!decide (d[K + t] = d[K + s]'(by omega)))) W := fun W => ad_neq _ _ W
            have hds : d[K + t - 1]'(by omega) = d[K + s]'(by omega) := by congr 1; omega
            have HT1 : Hid ((!decide (d[K + t] = d[K + s]'(by omega))) = false → CI d M q (K + t + 1)) := fun h => HI.out.skip hjd (by rw [hds]; simpa using h)
            have HT0 : Hid ((!decide (d[K + t] = d[K + s]'(by omega))) = true → CI d (M.set q d[K + t]) (q + 1) (K + t + 1)) := fun h => HI.out.put HLE.out hjd (by rw [hds]; simpa using h)
            have HSS : Hid (((adCs M).set (q * 2) (.int .u64 (hiN d[K + t] : Int))).set (q * 2 + 1) (.int .u64 (loN d[K + t] : Int)) = adCs (M.set q d[K + t])) := adCs_set M _ q (by omega)
            generalize (!decide (d[K + t] = d[K + s]'(by omega))) = E at *
            obtain ⟨MS, hMS⟩ : ∃ MS, MS = M.set q d[K + t] := ⟨_, rfl⟩
            rw [← hMS] at HSS HT0
            clear hMS e0 e1 hds
            generalize (hiN d[K + t] : Int) = p0 at *
            generalize (loN d[K + t] : Int) = p1 at *
            generalize (hiN (d[K + s]'(by omega)) : Int) = q0 at *
            generalize (loN (d[K + s]'(by omega)) : Int) = q1 at *
            have htk : t < n - K := by omega
            have hsk : s < n - K := by omega
            have hqi : (q : Int) < (n : Int) := by omega
            have hqn : q * 2 + 1 < n * 2 := by omega
            clear HI hjd hjM hML
            subst hs
            cases E
            · have HI2 : Hid (CI d M q (K + (s + 1) + 1)) := HT1.out rfl
              clear HT0 HT1 HSS
              go_wp2_with fail
              go_quiet (fail)
              go_wp2_with fail
              go_roundw
              case rel => exact ⟨q, s + 1 + 1, M, HI2, by omega, by omega, by omega, rfl, by go_num, HO, by first | exact hBr | exact below_drew hBr | exact below_drewN hBr _, hBs⟩
              case measure => simp [Go.RowKit.intOf]; omega
            · have HI2 : Hid (CI d MS (q + 1) (K + (s + 1) + 1)) := HT0.out rfl
              clear HT0 HT1
              go_wp2_with fail
              go_quiet (fail)
              obtain ⟨wB, hB'⟩ : ∃ wB, wB = wr.drewN nq := ⟨_, rfl⟩
              replace HO : Hid (wB.ownsRow B 25 2 (.slice (some ⟨gr, 0, none⟩) n cap) n (adCs M)) := by rw [hB']; exact own_drew HO.out _
              replace hBr : Below B w wB := by rw [hB']; exact below_drewN hBr _
              replace hBs : B ≤ wB.heap.size := by rw [hB']; exact hBs
              replace a0 : wB.cell? ⟨gr, K * 2 + (s + 1) * 2, none⟩ = some (.int .u64 p0) := by rw [hB']; exact a0
              replace a1 : wB.cell? ⟨gr, K * 2 + (s + 1) * 2 + 1, none⟩ = some (.int .u64 p1) := by rw [hB']; exact a1
              rw [← hB']
              clear hB' b0 b1 hneq
              have hf : ∀ j, wB.frozen? ⟨gr, j, none⟩ = false := fun j => (HO.out).frozenAt j
              obtain ⟨Z, hZ⟩ : ∃ Z, Z = (wB.setCell ⟨gr, q * 2, none⟩ (.int .u64 p0)).setCell ⟨gr, q * 2 + 1, none⟩ (.int .u64 p1) := ⟨_, rfl⟩
              obtain ⟨g1, g2⟩ := own_put2 HO.out _ _ Z hZ
              rw [HSS.out] at g1
              have HO5 : Hid (Z.ownsRow B 25 2 (.slice (some ⟨gr, 0, none⟩) n cap) n (adCs MS)) := g1
              have HC5 : Hid (Below B w Z ∧ B ≤ Z.heap.size) := ⟨hBr.grown g2 hBs (fun x e => by injection e with e; omega), Nat.le_trans hBs g2.size⟩
              clear g1 g2
              have hcq : ∀ x, x < n * 2 → ∃ z, wB.cell? ⟨gr, x, none⟩ = some z := fun x hx => ⟨_, (HO.out).cellAt x hx |>.trans (List.getElem?_eq_getElem (by rw [(HO.out).1]; exact hx))⟩
              obtain ⟨z0, hz0⟩ := hcq (q * 2) (by omega)
              obtain ⟨z1, hz1⟩ := hcq (q * 2 + 1) (by omega)
              clear HO HSS hcq
              go_upto_region 13 with fail
              rw [← hZ]
              clear hZ
              go_wp2_with fail
              go_roundw
              case rel => exact ⟨q + 1, s + 1 + 1, MS, HI2, by omega, by omega, by omega, by go_num, by go_num, HO5, HC5.out.1, HC5.out.2⟩
              case measure => simp [Go.RowKit.intOf]; omega
          · have htd : ¬ (t : Int) < ((n - K : Nat) : Int) := by omega
            have htd2 : ¬ t < n - K := by omega
            have hjn : K + t = n := by omega
            have hqi : (q : Int) ≤ (n : Int) := by omega
            have hqc : (q : Int) ≤ (cap : Int) := by omega
            have hcq : ¬ cap = q := by omega
            have hqn : q < n := by omega
            have hcells : ∀ x, x < n * 2 → (wr.cell? ⟨gr, x, none⟩).isSome = true := fun x hx => by
              rw [(HO.out).cellAt x hx |>.trans (List.getElem?_eq_getElem (by rw [(HO.out).1]; exact hx))]; rfl
            have hf : ∀ x, wr.frozen? ⟨gr, x, none⟩ = false := fun x => (HO.out).frozenAt x
            have hcl := fun ty => clear_ads wr ty gr (q * 2) (n - q) (cap - q) (by omega) (fun x hx => hcells _ (by omega)) hf
            obtain ⟨ys, o1, o2, o3⟩ := own_sets (zerosA (n - q)) (q * 2) HO.out
            obtain ⟨Z, hZ⟩ : ∃ Z, Z = wr.setCells gr (q * 2) (zerosA (n - q)) := ⟨_, rfl⟩
            rw [← hZ] at o1 o3
            simp only [← hZ] at hcl
            have hBZ : Below B w Z := hBr.grown o3 hBs (fun x e => by injection e with e; omega)
            have HF : Hid (Z.ownsRow B 25 2 (.slice (some ⟨gr, 0, none⟩) q cap) q (adCs (sortN d))) := by
              have h1 := own_cut o1 (m := q) (by omega)
              have h2 := HI.out
              rw [hjn, HN.out] at h2
              rw [o2, adCs_take, h2.done] at h1
              exact h1
            clear o1 o2 o3 hZ HO hcells hf HI hjn
            go_wp2_with fail
            go_ret
            exact ⟨q, rfl, HF.out, hBZ⟩
    · have hkn2 : k = n := by omega
      subst hkn2
      have hkd : decide ((k : Int) < (k : Int)) = false := decide_eq_false (by omega)
      have HF : Hid (wr.ownsRow B 25 2 (.slice (some ⟨gr, 0, none⟩) k cap) k (adCs (sortN d))) := by
        have hu := HU.out
        rw [HN.out, List.take_length] at hu
        show wr.ownsRow _ _ _ _ _ _
        rw [sortN_up hu]
        exact HO.out
      clear HU HO
      go_wp2_with fail
      go_ret
      exact ⟨k, rfl, HF.out, hBr⟩
end Go.Proofs.Ytaaedgfacnaggaa.Ct
