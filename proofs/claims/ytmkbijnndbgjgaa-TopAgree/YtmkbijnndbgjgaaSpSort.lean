/- slices.SortFunc and SortedFunc of runs, by where they begin. -/
import Derived.Test.YtmkbijnndbgjgaaCtSort
import Derived.Test.YtmkbijnndbgjgaaSpColl
set_option linter.unusedVariables false
namespace Go.Proofs.Ytmkbijnndbgjgaa.Sp
open Go.RowKit Go.Shelf Go.Lib Go.Sort
open Go.Proofs.Ytmkbijnndbgjgaa.Lk (HasRow hasRow_own addr_add)
open Go.Proofs.Ytmkbijnndbgjgaa.Ct (grow_of cmp_grow)
open Go.Proofs.Ytmkbijnndbgjgaa.Addr (wideN rightB hiN loN adV cmpN RowAt below2 below_drew below_new bset RowAt.lt RowAt.cell RowAt.frozen RowAt.below RowAt.drew RowAt.new RowAt.alloc cells2 cells4)
abbrev Sb := { s : Sp // s.1 < 2 ^ 128 ∧ s.2 < 2 ^ 128 }
def encB (x : Sb) : List Value := spC x.1
def cfB (x y : Sb) : Int := cmpN x.1.1 y.1.1
theorem ltB (x y : Sb) : ltOf cfB x y = decide (x.1.1 < y.1.1) := by
  unfold ltOf cfB cmpN
  by_cases h1 : x.1.1 < y.1.1
  · simp [h1]
  · rw [if_neg h1, decide_eq_false h1]
    split <;> rfl
theorem swoB : SWO (ltOf cfB) where
  irrefl x := by rw [ltB]; simp
  trans x y z h1 h2 := by rw [ltB] at *; simp at *; omega
  ntrans x y z h1 h2 := by rw [ltB] at *; simp at *; omega
abbrev fieldRow (g : Nat) : List Value := [.func (.func 87) #[] #[.pointer (some ⟨g, 0, none⟩)], .func (.func 89) #[] #[], .func (.func 90) #[] #[.pointer (some ⟨g, 0, none⟩)], .func (.func 92) #[] #[.pointer (some ⟨g, 0, none⟩)]]
set_option maxHeartbeats 2000000 in
theorem or1_grow (x y : Sp) (g gf : Nat) (w : World) (hx : FitS x) (hy : FitS y) (hf : RowAt w gf (fieldRow g) 123) : Calls Try.prog 96 #[.agg #[.int .u64 (hiN x.1 : Int), .int .u64 (loN x.1 : Int), .int .u64 (hiN x.2 : Int), .int .u64 (loN x.2 : Int)], .agg #[.int .u64 (hiN y.1 : Int), .int .u64 (loN y.1 : Int), .int .u64 (hiN y.2 : Int), .int .u64 (loN y.2 : Int)], .pointer (some ⟨gf, 0, none⟩)] w fun e w' => e = .returned (.int .i64 (cmpN x.1 y.1)) ∧ ∃ q os', w' = grow (w.drewN q) os' := by
  have cc := fun w => cmp_grow x.1 y.1 w hx.1 hy.1
  generalize cmpN x.1 y.1 = c at *
  unfold adV at cc
  generalize hiN x.1 = x1 at *
  generalize loN x.1 = x2 at *
  generalize hiN x.2 = x3 at *
  generalize loN x.2 = x4 at *
  generalize hiN y.1 = y1 at *
  generalize loN y.1 = y2 at *
  generalize hiN y.2 = y3 at *
  generalize loN y.2 = y4 at *
  clear hx hy
  obtain ⟨X, hX⟩ : ∃ X, X = (w.alloc (.cells #[.int .u64 (x1 : Int), .int .u64 (x2 : Int), .int .u64 (x3 : Int), .int .u64 (x4 : Int)] 130)).alloc (.cells #[.int .u64 (y1 : Int), .int .u64 (y2 : Int), .int .u64 (y3 : Int), .int .u64 (y4 : Int)] 130) := ⟨_, rfl⟩
  have hB : Below w.heap.size w X := by rw [hX]; exact below_new (below_new (Below.refl _ _) _) _
  have rx : RowAt X w.heap.size [.int .u64 (x1 : Int), .int .u64 (x2 : Int), .int .u64 (x3 : Int), .int .u64 (x4 : Int)] 130 := by rw [hX]; exact (RowAt.new _ _ _).alloc _
  have ry : RowAt X (w.heap.size + 1) [.int .u64 (y1 : Int), .int .u64 (y2 : Int), .int .u64 (y3 : Int), .int .u64 (y4 : Int)] 130 := by
    have h := RowAt.new (w.alloc (.cells #[.int .u64 (x1 : Int), .int .u64 (x2 : Int), .int .u64 (x3 : Int), .int .u64 (x4 : Int)] 130)) [.int .u64 (y1 : Int), .int .u64 (y2 : Int), .int .u64 (y3 : Int), .int .u64 (y4 : Int)] 130
    rw [World.size_alloc] at h
    rw [hX]; exact h
  have hd : X.drawn = w.drawn := by rw [hX]; rfl
  replace hf := hf.below hB
  obtain ⟨q0, q1, q2, q3, qf⟩ := cells4 hf
  obtain ⟨a0, a1, a2, a3, af⟩ := cells4 rx
  obtain ⟨b0, b1, b2, b3, bf⟩ := cells4 ry
  go_enter Try.func96, Try.ntmps96
  go_upto_region 1 with fail
  rw [← hX]
  clear hX
  go_wp2_with fail
  go_at_call 89; refine (cc _).mono ?_; rintro e w2 ⟨rfl, q, os, hw2⟩
  have hb2 : Below X.heap.size X w2 := by
    rw [hw2]
    exact ⟨rfl, rfl, rfl, by simp [grow], fun k hk => by rw [heap_grow_old _ _ (by simpa using hk)]; rfl⟩
  have hd2 : X.drawn ≤ w2.drawn := by rw [hw2]; show X.drawn ≤ X.drawn + q; omega
  have HG : Hid (∃ q os', w2 = grow (w.drewN q) os') := grow_of (below2 hB hb2) (by omega)
  clear hw2 hb2 hd2
  go_wp2_with fail
  go_ret
  exact ⟨rfl, HG.out⟩
theorem sort_grown (w : World) (gr q : Nat) (F : Array Value) (os : Array Obj) : w.grownBy (grow (putRow id (Sort.ahead w q) gr 0 F) os) (some gr) := by
  refine ⟨rfl, rfl, rfl, by simp, fun k hk hne => ?_⟩
  rw [heap_grow_old _ _ (by simpa using hk)]
  have : gr ≠ k := fun e => hne (by rw [e])
  simp [putRow, mapBlock, Sort.ahead, Array.getElem?_modify, this]
/-- a row's cells, laid anew in an owned row -/
theorem own_sorted4 {w : World} {B e gr n cap q : Nat} {os : Array Obj} {xs : List Value} (h : w.ownsRow B e 4 (.slice (some ⟨gr, 0, none⟩) n cap) n xs) (F : Array Value) (hF : F.size = n * 4) :
    (grow (putRow id (Sort.ahead w q) gr 0 F) os).ownsRow B e 4 (.slice (some ⟨gr, 0, none⟩) n cap) n F.toList := by
  refine ⟨by simpa using hF, ?_⟩
  rcases h.2 with ⟨e0, _⟩ | ⟨g', cap', cur, e1, hgB, hgb, hnc, hcm, hcs, htk⟩
  · cases e0
  · injection e1 with e1 _ e3
    injection e1 with e1
    injection e1 with e1
    subst e1 e3
    have hgl : gr < w.heap.size := (Array.getElem?_eq_some_iff.1 hgb).1
    refine .inr ⟨gr, cap, putCells id 0 F cur, rfl, hgB, ?_, hnc, hcm, by simp [putCells, hcs], ?_⟩
    · rw [heap_grow_old _ _ (by simpa using hgl)]
      simp [putRow, mapBlock, Sort.ahead, Array.getElem?_modify, hgb, onCells]
    · have hle : n * 4 ≤ cap * 4 := Nat.mul_le_mul_right 4 hnc
      apply List.ext_getElem?
      intro j
      by_cases hj : j < n * 4
      · rw [List.getElem?_take_of_lt hj, Array.getElem?_toList]
        have h1 : j < cur.size := by omega
        have h2 : j < F.size := by omega
        simp [putCells, h1, h2]
      · rw [List.getElem?_take_eq_none (by omega), List.getElem?_eq_none (by simp; omega)]
theorem flat_sps [Inhabited Sb] (l : List Sb) : (flatK encB 4 l.toArray).toList = spCs (l.map (·.1)) := by
  apply List.ext_getElem?
  intro t
  by_cases ht : t < l.length * 4
  · have hq : t / 4 < l.length := by omega
    have h := spCs_at (l.map (·.1)) (t / 4) (by simpa using hq)
    have hs : t < (flatK encB 4 l.toArray).size := by simpa using ht
    rw [Array.getElem?_toList, Array.getElem?_eq_getElem hs]
    have hg := get_flatK encB 4 l.toArray t (by simpa using ht)
    rw [getElem!_pos (flatK encB 4 l.toArray) t hs] at hg
    rw [hg]
    have hl : l.toArray[t / 4]! = l[t / 4] := by simp [hq]
    rw [hl]
    have h4 : t % 4 = 0 ∨ t % 4 = 1 ∨ t % 4 = 2 ∨ t % 4 = 3 := by omega
    rcases h4 with h0 | h0 | h0 | h0
    · rw [h0]
      have e : t = 4 * (t / 4) := by omega
      have := h.1
      rw [← e] at this
      rw [this]
      simp [encB, spC]
    · rw [h0]
      have e : t = 4 * (t / 4) + 1 := by omega
      have := h.2.1
      rw [← e] at this
      rw [this]
      simp [encB, spC]
    · rw [h0]
      have e : t = 4 * (t / 4) + 2 := by omega
      have := h.2.2.1
      rw [← e] at this
      rw [this]
      simp [encB, spC]
    · rw [h0]
      have e : t = 4 * (t / 4) + 3 := by omega
      have := h.2.2.2
      rw [← e] at this
      rw [this]
      simp [encB, spC]
  · rw [List.getElem?_eq_none (by simp; omega), List.getElem?_eq_none (by rw [spCs_len]; simp; omega)]
theorem lift_sps : ∀ (d : List Sp), (∀ x ∈ d, FitS x) → ∃ l : List Sb, l.map (·.1) = d
  | [], _ => ⟨[], rfl⟩
  | x :: d, h => by
    obtain ⟨l, hl⟩ := lift_sps d (fun y hy => h y (List.mem_cons_of_mem _ hy))
    exact ⟨⟨x, h x List.mem_cons_self⟩ :: l, by rw [List.map_cons, hl]⟩
theorem sort_any (d : List Sp) (gr cap n B gf g : Nat) (w : World) (hn : n = d.length) (hlen : n ≤ 1000000) (hf : ∀ x ∈ d, FitS x)
    (hown : w.ownsRow B 130 4 (.slice (some ⟨gr, 0, none⟩) n cap) n (spCs d)) (hB : B ≤ gr) (hBw : B ≤ w.heap.size) (hr : RowAt w gf (fieldRow g) 123) (hne : gf ≠ gr) :
    Calls Try.prog 111 #[.slice (some ⟨gr, 0, none⟩) n cap, .func (.func 96) #[] #[.pointer (some ⟨gf, 0, none⟩)]] w fun e w' => e = .returned (.tuple #[]) ∧ ∃ d', Ris d' ∧ d'.length = n ∧ (∀ z, z ∈ d' ↔ z ∈ d) ∧ w'.ownsRow B 130 4 (.slice (some ⟨gr, 0, none⟩) n cap) n (spCs d') ∧ w.grownBy w' (some gr) := by
  haveI : Inhabited Sb := ⟨⟨(0, 0), by decide⟩⟩
  obtain ⟨l, rfl⟩ := lift_sps d hf
  have hl : l.length = n := by rw [hn]; simp
  have hgr : gr < w.heap.size := by
    rcases hown.2 with ⟨e0, _⟩ | ⟨g', cap', cur, e1, hgB, hgb, _⟩
    · cases e0
    · injection e1 with e1 _ e3
      injection e1 with e1
      injection e1 with e1
      subst e1
      exact (Array.getElem?_eq_some_iff.1 hgb).1
  have hH : HoldsK encB 4 w gr 0 l.toArray := by
    intro j hj
    have hj2 : j < n * 4 := by simpa [hl] using hj
    refine ⟨?_, hown.frozenAt _⟩
    rw [Nat.zero_add, hown.cellAt j hj2, ← flat_sps, Array.getElem?_toList, Array.getElem?_eq_getElem hj, getElem!_pos (flatK encB 4 l.toArray) j hj]
    rfl
  have eg : ∀ args w, (callFunc 96 args).run Try.prog w = .ok (.enter 96 args) w := enters_of Try.func96 (by kernel_rfl) rfl
  have hcon := AnyQ.slices_SortFunc Try.sortF 4 Try.isAgg130 Try.sizeOf130 encB (fun _ => rfl) (fun x v hv => by simp [encB, spC] at hv; rcases hv with rfl | rfl | rfl | rfl <;> rfl) cfB swoB 96 #[.pointer (some ⟨gf, 0, none⟩)] gr 0 cap l.toArray w eg (fun m os dk _ x y => or1_grow x.1 y.1 g gf _ x.2 y.2 (hr.gkeep (sort_grown w gr m (flatK encB 4 dk) os) (by simpa using hne))) hH hgr (by simp; omega)
  have hsz : l.toArray.size = n := by simpa using hl
  rw [hsz] at hcon
  refine hcon.mono ?_
  rintro e w' ⟨he, d', q, os, hp, hs, hw⟩
  have hd1 : d'.size = n := by rw [hp.1]; exact hsz
  have hperm : d'.toList.Perm l := by
    have h := hp.2.2
    rw [show d'.extract 0 n = d' by rw [← hd1]; simp, show l.toArray.extract 0 n = l.toArray by rw [← hsz]; simp] at h
    simpa using h
  refine ⟨he, d'.toList.map (·.1), ?_, by simpa using hd1, fun z => ?_, ?_, ?_⟩
  · refine List.pairwise_map.2 (List.pairwise_iff_getElem.2 (fun i j hi hj hij => ?_))
    have h := hs i j (Nat.zero_le _) hij (by simpa [hd1] using hj)
    have hi' : i < d'.size := by simpa using hi
    have hj' : j < d'.size := by simpa using hj
    rw [getElem!_pos d' i hi', getElem!_pos d' j hj', ltB, decide_eq_false_iff_not] at h
    simp only [Array.getElem_toList]
    omega
  · simp only [List.mem_map]
    constructor
    · rintro ⟨a, ha, rfl⟩; exact ⟨a, hperm.mem_iff.1 ha, rfl⟩
    · rintro ⟨a, ha, rfl⟩; exact ⟨a, hperm.mem_iff.2 ha, rfl⟩
  · rw [hw]
    have h := own_sorted4 (q := q) (os := os) hown (flatK encB 4 d') (by simp [hd1])
    have e2 := flat_sps d'.toList
    rw [Array.toArray_toList] at e2
    rw [e2] at h
    exact h
  · rw [hw]
    exact sort_grown w gr q (flatK encB 4 d') os
end Go.Proofs.Ytmkbijnndbgjgaa.Sp
