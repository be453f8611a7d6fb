/- trie.Cuts. -/
import Derived.Test.YtaaedgfacnaggaaShelfS
import Derived.Test.YtaaedgfacnaggaaTs15
import Derived.Test.YtaaedgfacnaggaaTs01
import Derived.Shelf.SlSortCmp.NoneTotal
import Derived.Test.YtaaedgfacnaggaaTs05
import Derived.Test.YtaaedgfacnaggaaTs13
import Derived.Test.YtaaedgfacnaggaaTs14
set_option linter.unusedVariables false
namespace Go.Proofs.Ytaaedgfacnaggaa.Ct
open Go.RowKit Go.Shelf Go.Lib Go.Sort
open Go.Proofs.Ytaaedgfacnaggaa.Addr (hiN loN adV cmpN hiN_lt loN_lt compare_any or_any cmp_parts RowAt below_drew below_new RowAt.drew RowAt.new RowAt.alloc)
abbrev Ad := { n : Nat // n < 2 ^ 128 }
def encA (x : Ad) : List Value := [.int .u64 (hiN x.1 : Int), .int .u64 (loN x.1 : Int)]
def cfA (x y : Ad) : Int := cmpN x.1 y.1
theorem ltA (x y : Ad) : ltOf cfA x y = decide (x.1 < y.1) := by
  unfold ltOf cfA cmpN
  by_cases h1 : x.1 < y.1
  · simp [h1]
  · rw [if_neg h1, decide_eq_false h1]
    split <;> rfl
theorem swoA : SWO (ltOf cfA) where
  irrefl x := by rw [ltA]; simp
  trans x y z h1 h2 := by rw [ltA] at *; simp at *; omega
  ntrans x y z h1 h2 := by rw [ltA] at *; simp at *; omega
theorem grow_of {W w' : World} (h : Below W.heap.size W w') (hd : W.drawn ≤ w'.drawn) : ∃ q os', w' = grow (W.drewN q) os' := by
  refine ⟨w'.drawn - W.drawn, w'.heap.extract W.heap.size w'.heap.size, ?_⟩
  obtain ⟨h1, h2, h3, h4, h5⟩ := h
  cases w' with
  | mk hp tp dr os ou =>
    cases W with
    | mk hp0 tp0 dr0 os0 ou0 =>
      simp only [grow, World.drewN] at *
      subst h1 h2 h3
      congr 1
      · apply Array.ext_getElem?
        intro k
        by_cases hk : k < hp0.size
        · rw [Array.getElem?_append_left hk, h5 k hk]
        · rw [Array.getElem?_append_right (by omega), Array.getElem?_extract]
          by_cases hk2 : k < hp.size
          · rw [if_pos (by omega)]; congr 1; omega
          · rw [if_neg (by omega), Array.getElem?_eq_none (by omega)]
      · omega
set_option maxHeartbeats 2000000 in
theorem cmp_grow (n m : Nat) (w : World) (hn : n < 2 ^ 128) (hm : m < 2 ^ 128) : Calls Try.prog 36 #[adV n, adV m] w fun e w' => e = .returned (.int .i64 (cmpN n m)) ∧ ∃ q os', w' = grow (w.drewN q) os' := by
  have c1 := fun w => compare_any (hiN n) (hiN m) w (by have := hiN_lt hn; omega) (by have := hiN_lt hm; omega)
  have c2 := fun w => compare_any (loN n) (loN m) w (by have := loN_lt n; omega) (by have := loN_lt m; omega)
  have HR : Hid ((if cmpN (hiN n) (hiN m) = 0 then cmpN (loN n) (loN m) else cmpN (hiN n) (hiN m)) = cmpN n m) := cmp_parts n m
  unfold adV
  generalize cmpN (hiN n) (hiN m) = x at *
  generalize cmpN (loN n) (loN m) = y at *
  generalize cmpN n m = R at HR ⊢
  have c3 := fun g w h => or_any x y g w h
  rw [HR.out] at c3
  clear HR
  generalize hiN n = a at *
  generalize hiN m = b at *
  generalize loN n = c at *
  generalize loN m = d at *
  clear hn hm
  have h3 : RowAt (((w.alloc (.cells #[.int .u64 (a : Int), .int .u64 (c : Int)] 25)).alloc (.cells #[.int .u64 (b : Int), .int .u64 (d : Int)] 25)).alloc (.cells #[.int .i64 x, .int .i64 y] 3)).drew (w.heap.size + 1 + 1) [.int .i64 x, .int .i64 y] 3 := by
    have := RowAt.new ((w.alloc (.cells #[.int .u64 (a : Int), .int .u64 (c : Int)] 25)).alloc (.cells #[.int .u64 (b : Int), .int .u64 (d : Int)] 25)) [.int .i64 x, .int .i64 y] 3
    rw [World.size_alloc, World.size_alloc] at this
    exact this.drew
  have HG : Hid (∃ q os', (((w.alloc (.cells #[.int .u64 (a : Int), .int .u64 (c : Int)] 25)).alloc (.cells #[.int .u64 (b : Int), .int .u64 (d : Int)] 25)).alloc (.cells #[.int .i64 x, .int .i64 y] 3)).drew = grow (w.drewN q) os') := grow_of (below_drew (below_new (below_new (below_new (Below.refl _ w) _) _) _)) (by simp only [World.drew, World.alloc]; omega)
  go_enter Try.func36, Try.ntmps36
  go_wp2_with fail
  go_region_held3 (fun w' => w'.cell? ⟨w.heap.size, 0, none⟩ = some (.int .u64 (a : Int)) ∧ w'.cell? ⟨w.heap.size, 1, none⟩ = some (.int .u64 (c : Int)) ∧ w'.cell? ⟨w.heap.size + 1, 0, none⟩ = some (.int .u64 (b : Int)) ∧ w'.cell? ⟨w.heap.size + 1, 1, none⟩ = some (.int .u64 (d : Int)))
    (go_keep)
    (first
    | (go_at_call 60; with_reducible refine (c1 _).mono ?_; rintro e w2 ⟨rfl, rfl⟩)
    | (go_at_call 60; with_reducible refine (c2 _).mono ?_; rintro e w2 ⟨rfl, rfl⟩)
    | (go_at_call 44; with_reducible refine (c3 _ _ h3).mono ?_; rintro e w2 ⟨rfl, rfl⟩))
  go_wp2_with fail
  go_ret
  exact ⟨rfl, HG.out⟩
/-- a row's cells, laid anew in an owned row -/
theorem own_sorted {w : World} {B e gr n cap q : Nat} {os : Array Obj} {xs : List Value} (h : w.ownsRow B e 2 (.slice (some ⟨gr, 0, none⟩) n cap) n xs) (F : Array Value) (hF : F.size = n * 2) :
    (grow (putRow id (Sort.ahead w q) gr 0 F) os).ownsRow B e 2 (.slice (some ⟨gr, 0, none⟩) n cap) n F.toList ∧ w.grownBy (grow (putRow id (Sort.ahead w q) gr 0 F) os) (some gr) := by
  have hg : w.grownBy (grow (putRow id (Sort.ahead w q) gr 0 F) os) (some gr) := by
    refine ⟨rfl, rfl, rfl, by simp, fun k hk hne => ?_⟩
    rw [heap_grow_old _ _ (by simpa using hk)]
    have : gr ≠ k := fun e => hne (by rw [e])
    simp [putRow, mapBlock, Sort.ahead, Array.getElem?_modify, this]
  refine ⟨⟨by simpa using hF, ?_⟩, hg⟩
  rcases h.2 with ⟨e0, _⟩ | ⟨g', cap', cur, e1, hgB, hgb, hnc, hcm, hcs, htk⟩
  · cases e0
  · injection e1 with e1 _ e3
    injection e1 with e1
    injection e1 with e1
    subst e1 e3
    have hgl : gr < w.heap.size := (Array.getElem?_eq_some_iff.1 hgb).1
    refine .inr ⟨gr, cap, putCells id 0 F cur, rfl, hgB, ?_, hnc, hcm, by simp [putCells, hcs], ?_⟩
    · rw [heap_grow_old _ _ (by simpa using hgl)]
      simp [putRow, mapBlock, Sort.ahead, Array.getElem?_modify, hgb, onCells]
    · have hle : n * 2 ≤ cap * 2 := Nat.mul_le_mul_right 2 hnc
      apply List.ext_getElem?
      intro j
      by_cases hj : j < n * 2
      · rw [List.getElem?_take_of_lt hj, Array.getElem?_toList]
        have h1 : j < cur.size := by omega
        have h2 : j < F.size := by omega
        simp [putCells, h1, h2]
      · rw [List.getElem?_take_eq_none (by omega), List.getElem?_eq_none (by simp; omega)]
theorem flat_ads [Inhabited Ad] (l : List Ad) : (flatK encA 2 l.toArray).toList = adCs (l.map (·.1)) := by
  apply List.ext_getElem?
  intro t
  by_cases ht : t < l.length * 2
  · have hq : t / 2 < l.length := by omega
    have h := adCs_at (l.map (·.1)) (t / 2) (by simpa using hq)
    have hs : t < (flatK encA 2 l.toArray).size := by simpa using ht
    rw [Array.getElem?_toList, Array.getElem?_eq_getElem hs]
    have hg := get_flatK encA 2 l.toArray t (by simpa using ht)
    rw [getElem!_pos (flatK encA 2 l.toArray) t hs] at hg
    rw [hg]
    have hl : l.toArray[t / 2]! = l[t / 2] := by simp [hq]
    rw [hl]
    rcases Nat.mod_two_eq_zero_or_one t with h0 | h0
    · rw [h0]
      have e : t = 2 * (t / 2) := by omega
      have := h.1
      rw [← e] at this
      rw [this]
      simp [encA]
    · rw [h0]
      have e : t = 2 * (t / 2) + 1 := by omega
      have := h.2
      rw [← e] at this
      rw [this]
      simp [encA]
  · rw [List.getElem?_eq_none (by simp; omega), List.getElem?_eq_none (by rw [adCs_len]; simp; omega)]
theorem lift_ads : ∀ (d : List Nat), (∀ x ∈ d, x < 2 ^ 128) → ∃ l : List Ad, l.map (·.1) = d
  | [], _ => ⟨[], rfl⟩
  | x :: d, h => by
    obtain ⟨l, hl⟩ := lift_ads d (fun y hy => h y (List.mem_cons_of_mem _ hy))
    exact ⟨⟨x, h x List.mem_cons_self⟩ :: l, by rw [List.map_cons, hl]⟩
theorem sort_any (d : List Nat) (gr cap n B : Nat) (w : World) (hn : n = d.length) (hlen : n ≤ 1000) (hf : ∀ x ∈ d, x < 2 ^ 128)
    (hown : w.ownsRow B 25 2 (.slice (some ⟨gr, 0, none⟩) n cap) n (adCs d)) (hB : B ≤ gr) (hBw : B ≤ w.heap.size) :
    Calls Try.prog 35 #[.slice (some ⟨gr, 0, none⟩) n cap, .func (.func 36) #[] #[]] w fun e w' => e = .returned (.tuple #[]) ∧ ∃ d', Le d' ∧ d'.length = n ∧ (∀ z, z ∈ d' ↔ z ∈ d) ∧ w'.ownsRow B 25 2 (.slice (some ⟨gr, 0, none⟩) n cap) n (adCs d') ∧ Below B w w' ∧ w.heap.size ≤ w'.heap.size := by
  haveI : Inhabited Ad := ⟨⟨0, by decide⟩⟩
  obtain ⟨l, rfl⟩ := lift_ads d hf
  have hl : l.length = n := by rw [hn]; simp
  have hgr : gr < w.heap.size := by
    rcases hown.2 with ⟨e0, _⟩ | ⟨g', cap', cur, e1, hgB, hgb, _⟩
    · cases e0
    · injection e1 with e1 _ e3
      injection e1 with e1
      injection e1 with e1
      subst e1
      exact (Array.getElem?_eq_some_iff.1 hgb).1
  have hH : HoldsK encA 2 w gr 0 l.toArray := by
    intro j hj
    have hj2 : j < n * 2 := by simpa [hl] using hj
    refine ⟨?_, hown.frozenAt _⟩
    rw [Nat.zero_add, hown.cellAt j hj2, ← flat_ads, Array.getElem?_toList, Array.getElem?_eq_getElem hj, getElem!_pos (flatK encA 2 l.toArray) j hj]
    rfl
  have eg : ∀ args w, (callFunc 36 args).run Try.prog w = .ok (.enter 36 args) w := enters_of Try.func36 (by kernel_rfl) rfl
  have hcon := AnyQ.slices_SortFunc_total Try.sortF 2 Try.isAgg25 Try.sizeOf25 encA (fun _ => rfl) (fun x v hv => by simp [encA] at hv; rcases hv with rfl | rfl <;> rfl) cfA swoA 36 #[] gr 0 cap l.toArray w eg (fun m os dk _ x y => cmp_grow x.1 y.1 _ x.2 y.2) hH hgr (by simp; omega) (fun x y h1 h2 => by
    rw [ltA] at h1 h2
    simp at h1 h2
    exact Subtype.ext (Nat.le_antisymm h2 h1))
  have hsz : l.toArray.size = n := by simpa using hl
  rw [hsz] at hcon
  refine hcon.mono ?_
  rintro e w' ⟨he, q, os, hw⟩
  refine ⟨he, (l.mergeSort fun x y => !(ltOf cfA) y x).map (·.1), ?_, by simpa using hl, fun z => ?_, ?_, ?_, ?_⟩
  · have hp := List.pairwise_mergeSort (le := fun x y => !(ltOf cfA) y x) (fun a b c h1 h2 => by simp only [ltA] at *; simp at *; omega) (fun a b => by simp only [ltA]; simp; omega) l
    exact List.pairwise_map.2 (hp.imp (fun {a b} h => by simp only [ltA] at h; simpa using h))
  · simp only [List.mem_map, List.mem_mergeSort]
  · rw [hw]
    have h := (own_sorted (q := q) (os := os) hown (flatK encA 2 (l.mergeSort fun x y => !(ltOf cfA) y x).toArray) (by simp [hl])).1
    rw [flat_ads] at h
    exact h
  · rw [hw]
    have h := (own_sorted (q := q) (os := os) hown (flatK encA 2 (l.mergeSort fun x y => !(ltOf cfA) y x).toArray) (by simp [hl])).2
    exact (Below.refl B w).grown h hBw (fun x e => by injection e with e; omega)
  · rw [hw]
    exact (own_sorted (q := q) (os := os) hown (flatK encA 2 (l.mergeSort fun x y => !(ltOf cfA) y x).toArray) (by simp [hl])).2.size
end Go.Proofs.Ytaaedgfacnaggaa.Ct
namespace Go.Proofs.Ytaaedgfacnaggaa.Ct
open Go.RowKit
open Go.Proofs.Ytaaedgfacnaggaa.Addr (Pf pfV rightB lastE nextE wideN hiN loN adV RowAt below2 below_new RowAt.lt RowAt.cell RowAt.below RowAt.new RowAt.alloc cells2)
open Go.Proofs.Ytaaedgfacnaggaa.Lk (hasRow_own)
open Go.Proofs.Ytaaedgfacnaggaa.Tr (Rt HasRts HasRts.keep FitR okT checkT six_at six_of)
attribute [-go_sem] Builtin.append_
/-- where a route begins, and the address behind its last one -/
def partC (six : Bool) (r : Rt) : List Nat := if r.pf.six = six then [r.pf.n, (nextE six (lastE r.pf).1).1] else []
def partsC (l : List Rt) (six : Bool) : List Nat := l.flatMap (partC six)
def cutsT (l : List Rt) (six : Bool) : List Nat × Int := if okT l then (sortN (0 :: partsC l six), 0) else ([], 2)
theorem partsC_snoc (l : List Rt) (six : Bool) (k : Nat) (h : k < l.length) : partsC (l.take (k + 1)) six = partsC (l.take k) six ++ partC six l[k] := by
  unfold partsC
  rw [List.take_succ_eq_append_getElem h, List.flatMap_append]
  simp
theorem partC_len (six : Bool) (r : Rt) : (partC six r).length ≤ 2 := by unfold partC; split <;> simp
theorem partsC_len (l : List Rt) (six : Bool) : (partsC l six).length ≤ 2 * l.length := by
  induction l with
  | nil => simp [partsC]
  | cons r l ih =>
    show (partC six r ++ partsC l six).length ≤ _
    have := partC_len six r
    rw [List.length_append, List.length_cons]
    omega
theorem last_lt (p : Pf) (h : p.n < 2 ^ 128) : (lastE p).1 < 2 ^ 128 := by
  unfold lastE
  split
  · rename_i hk
    have h1 : 2 ^ wideN p.six ≤ 2 ^ 128 := Nat.pow_le_pow_right (by decide) (by unfold wideN; split <;> omega)
    exact Nat.lt_of_lt_of_le (Go.Proofs.Ytaaedgfacnaggaa.Addr.last_lt hk) h1
  · decide
theorem next_lt (six : Bool) (n : Nat) (h : n < 2 ^ 128) : (nextE six n).1 < 2 ^ 128 := by
  unfold nextE
  split
  · rename_i hr
    split
    · decide
    · rename_i hne
      unfold rightB at hr
      simp only [decide_eq_true_eq] at hr
      have h1 : 2 ^ wideN six ≤ 2 ^ 128 := Nat.pow_le_pow_right (by decide) (by unfold wideN; split <;> omega)
      show n + 1 < 2 ^ 128
      omega
  · decide
theorem partsC_lt {l : List Rt} (hf : ∀ r ∈ l, FitR r) (six : Bool) : ∀ x ∈ (0 :: partsC l six), x < 2 ^ 128 := by
  intro x hx
  rcases List.mem_cons.1 hx with rfl | hx
  · decide
  · obtain ⟨r, hr, hm⟩ := List.mem_flatMap.1 hx
    unfold partC at hm
    split at hm
    · simp only [List.mem_cons, List.not_mem_nil, or_false] at hm
      have h1 := (hf r hr).1.2
      rcases hm with rfl | rfl
      · exact h1
      · exact next_lt _ _ (last_lt _ h1)
    · cases hm
/-- a row of one's own, and nothing else -/
structure OwnC (w W : World) (v : Value) (m : List Nat) : Prop where
  own : W.ownsRow w.heap.size 25 2 v m.length (adCs m)
  bl : Below w.heap.size w W
theorem OwnC.below {w W W' : World} {v : Value} {m : List Nat} (h : OwnC w W v m) (hb : Below W.heap.size W W') : OwnC w W' v m := ⟨own_below h.own hb, below2 h.bl hb⟩
theorem OwnC.app {w W : World} {v u : Value} {m news : List Nat} (h : OwnC w W v m) (hu : HasAds W u news) (hl : m.length + news.length ≤ 1000000) :
    ∃ v' w3, (∀ ty, (Builtin.append_ #[50, 50] ty #[v, u]).run Try.prog W = .ok v' w3) ∧ OwnC w w3 v' (m ++ news) := by
  obtain ⟨v', w3, hrun, ho, hg⟩ := Lk.append_row info_ad Try.underlying50 rfl (by decide) h.own hu (one_ads news) (by omega) (by omega) h.bl.size
  rw [← adCs_app, ← List.length_append] at ho
  exact ⟨v', w3, hrun, ho, h.bl.grown hg h.bl.size (fun k e => (h.own.lt k e).1)⟩
theorem lit_two (W : World) (a b : Nat) : HasAds (W.alloc (.cells #[.int .u64 (hiN a : Int), .int .u64 (loN a : Int), .int .u64 (hiN b : Int), .int .u64 (loN b : Int)] 25)) (.slice (some ⟨W.heap.size, 0, none⟩) 2 2) [a, b] :=
  hasRow_own (World.ownsRow_lit (base := W.heap.size) W #[.int .u64 (hiN a : Int), .int .u64 (loN a : Int), .int .u64 (hiN b : Int), .int .u64 (loN b : Int)] 2 (Nat.le_refl _) (by decide) rfl)
theorem OwnC.slice {w W : World} {v : Value} {m : List Nat} (h : OwnC w W v m) (hm : 0 < m.length) : ∃ g cap, v = .slice (some ⟨g, 0, none⟩) m.length cap ∧ w.heap.size ≤ g ∧ m.length ≤ cap ∧ cap ≤ 9223372036854775807 := by
  rcases h.own.2 with ⟨rfl, h0⟩ | ⟨g, cap, cur, rfl, hgB, hgb, hnc, hcm, hcs, htk⟩
  · have := h.own.1
    rw [adCs_len] at this
    omega
  · exact ⟨g, cap, rfl, hgB, hnc, hcm⟩
set_option maxHeartbeats 8000000 in
set_option maxRecDepth 20000 in
theorem cuts_walk (l : List Rt) (o : Option Addr) (n c : Nat) (six : Bool) (w : World) (hn : n = l.length) (hlen : n ≤ 256) (hl : HasRts w (.slice o n c) l) (hfit : ∀ r ∈ l, FitR r)
    (cc : ∀ W, HasRts W (.slice o n c) l → Calls Try.prog 9 #[.slice o n c] W fun e w' => e = .returned (.int .i64 0) ∧ Below W.heap.size W w') :
    Calls Try.prog 18 #[.slice o n c, .bool six] w fun e w' => ∃ v, e = .returned (.tuple #[v, .int .i64 0]) ∧ OwnC w w' v (sortN (0 :: partsC l six)) := by
  have HN : Hid (n = l.length) := hn
  have HR : Hid (∀ wr : World, Below w.heap.size w wr → HasRts wr (.slice o n c) l) := fun wr hb => hl.keep hb
  have HF : Hid (∀ r ∈ l, FitR r) := hfit
  have HFE : Hid (∀ x ∈ (0 :: partsC l six), x < 2 ^ 128) := partsC_lt hfit six
  have hni : (n : Int) ≤ 256 := by omega
  have cl : Hid (∀ (p : Pf) (W : World), Tr.FitP p → Calls Try.prog 33 #[pfV p] W fun e w' => e = .returned (.tuple #[adV (lastE p).1, .int .i64 (lastE p).2]) ∧ Below W.heap.size W w') := fun p W h => Addr.last_any p W h.1 h.2
  have cx : Hid (∀ (a : Nat) (W : World), a < 2 ^ 128 → Calls Try.prog 34 #[.bool six, adV a] W fun e w' => e = .returned (.tuple #[adV (nextE six a).1, .int .i64 (nextE six a).2]) ∧ Below W.heap.size W w') := fun a W h => Addr.next_any six a W h
  clear hn hfit
  go_enter Try.func18, Try.ntmps18
  go_wp2_with fail
  go_at_call 9; refine (cc _ hl).mono ?_; rintro e w1 ⟨rfl, hb1⟩
  clear cc hl
  obtain ⟨Y, hY⟩ : ∃ Y, Y = w1.alloc (.cells #[.int .u64 0, .int .u64 0] 25) := ⟨_, rfl⟩
  have H0 : Hid (OwnC w Y (.slice (some ⟨w1.heap.size, 0, none⟩) 1 1) (0 :: partsC (l.take 0) six)) := by
    rw [hY]
    exact ⟨World.ownsRow_lit (base := w.heap.size) w1 #[.int .u64 0, .int .u64 0] 1 hb1.size (by decide) rfl, below_new hb1 _⟩
  go_upto_region 5 with fail
  rw [← hY]
  clear hY hb1
  go_wp2_with fail
  go_loopw [7, 23] (fun v q wr => ∃ k : Nat, k ≤ n ∧ q = .int .i64 (k : Int) ∧ Hid (OwnC w wr v (0 :: partsC (l.take k) six))) (fun _ q _ => n - (Go.RowKit.intOf q).toNat)
  case atStart => exact ⟨0, by omega, rfl, H0⟩
  case round =>
    obtain ⟨k, hk, rfl, HI⟩ := hrel
    clear H0
    by_cases hlt : k < n
    · have hkz : k < l.length := by rw [← HN.out]; exact hlt
      obtain ⟨g1, i1, rfl, hg1, ax⟩ := Tr.HasRts.cell (HR.out _ HI.out.bl) k hkz
      obtain ⟨a0, a1, a2, a3, a4, a5⟩ := six_at ax
      clear ax
      have HS : Hid (partsC (l.take (k + 1)) six = partsC (l.take k) six ++ partC six l[k]) := partsC_snoc l six k hkz
      have hfk := HF.out l[k] (List.getElem_mem hkz)
      have hpl := partsC_len (l.take k) six
      rw [List.length_take] at hpl
      have c1 : ∀ W : World, Calls Try.prog 33 #[.agg #[.bool l[k].pf.six, .int .u64 (hiN l[k].pf.n : Int), .int .u64 (loN l[k].pf.n : Int), .int .i64 l[k].pf.len]] W fun e w' => e = .returned (.tuple #[.agg #[.int .u64 (hiN (lastE l[k].pf).1 : Int), .int .u64 (loN (lastE l[k].pf).1 : Int)], .int .i64 (lastE l[k].pf).2]) ∧ Below W.heap.size W w' := fun W => cl.out l[k].pf W hfk.1
      have c2 : ∀ W : World, Calls Try.prog 34 #[.bool six, .agg #[.int .u64 (hiN (lastE l[k].pf).1 : Int), .int .u64 (loN (lastE l[k].pf).1 : Int)]] W fun e w' => e = .returned (.tuple #[.agg #[.int .u64 (hiN (nextE six (lastE l[k].pf).1).1 : Int), .int .u64 (loN (nextE six (lastE l[k].pf).1).1 : Int)], .int .i64 (nextE six (lastE l[k].pf).1).2]) ∧ Below W.heap.size W w' := fun W => cx.out (lastE l[k].pf).1 W (last_lt _ hfk.1.2)
      have HP : Hid (partC six l[k] = if l[k].pf.six = six then [l[k].pf.n, (nextE six (lastE l[k].pf).1).1] else []) := rfl
      have hpl2 : (partsC (l.take k) six).length ≤ 512 := by omega
      generalize partC six l[k] = PC at HS HP
      obtain ⟨x, hx⟩ : ∃ x : Rt, x = l[k] := ⟨_, rfl⟩
      rw [← hx] at a0 a1 a2 a3 a4 a5 c1 c2 HP
      clear hx hfk hpl
      obtain ⟨⟨s0, pn, pl⟩, ⟨ak, ai⟩⟩ := x
      simp only at a0 a1 a2 a3 a4 a5 c1 c2 HP
      generalize (lastE ⟨s0, pn, pl⟩).1 = la at *
      generalize (lastE ⟨s0, pn, pl⟩).2 = lz at *
      generalize (nextE six la).1 = na at *
      generalize (nextE six la).2 = nz at *
      have hki : (k : Int) < (n : Int) := by omega
      obtain ⟨X, hX⟩ : ∃ X, X = wr.alloc (.cells #[.bool s0, .int .u64 (hiN pn : Int), .int .u64 (loN pn : Int), .int .i64 pl, .int .u8 (ak : Int), .int .i64 ai] 37) := ⟨_, rfl⟩
      have hbX : Below wr.heap.size wr X := by rw [hX]; exact below_new (Below.refl _ _) _
      have r0 : RowAt X wr.heap.size [.bool s0, .int .u64 (hiN pn : Int), .int .u64 (loN pn : Int), .int .i64 pl, .int .u8 (ak : Int), .int .i64 ai] 37 := by rw [hX]; exact RowAt.new _ _ _
      go_upto_region 8 with fail
      rw [← hX]
      replace HI : Hid (OwnC w X u7 (0 :: partsC (l.take k) six)) := HI.out.below hbX
      clear hX hbX a0 a1 a2 a3 a4 a5 hg1
      generalize wr.heap.size = gs at r0 ⊢
      by_cases hs : s0 = six
      · subst hs
        have HP2 : Hid (PC = [pn, na]) := by rw [HP.out, if_pos rfl]; exact rfl
        clear HP
        obtain ⟨y0, y1, y2, y3, y4, y5, yf⟩ := six_of r0
        go_wp2_with fail
        go_at_call 33; refine (c1 _).mono ?_; rintro e w2 ⟨rfl, hb2⟩
        replace HI : Hid (OwnC w w2 u7 (0 :: partsC (l.take k) s0)) := HI.out.below hb2
        replace r0 := RowAt.below r0 hb2
        clear y0 y1 y2 y3 y4 y5 yf hb2 c1
        obtain ⟨X2, hX⟩ : ∃ X2, X2 = w2.alloc (.cells #[.int .u64 (hiN la : Int), .int .u64 (loN la : Int)] 25) := ⟨_, rfl⟩
        have hbX : Below w2.heap.size w2 X2 := by rw [hX]; exact below_new (Below.refl _ _) _
        have r1 : RowAt X2 w2.heap.size [.int .u64 (hiN la : Int), .int .u64 (loN la : Int)] 25 := by rw [hX]; exact RowAt.new _ _ _
        replace HI : Hid (OwnC w X2 u7 (0 :: partsC (l.take k) s0)) := HI.out.below hbX
        replace r0 := RowAt.below r0 hbX
        go_upto_region 10 with fail
        rw [← hX]
        clear hX hbX
        generalize w2.heap.size = gl at r1 ⊢
        obtain ⟨z0, z1, zf⟩ := cells2 r1
        go_wp2_with fail
        go_at_call 34; refine (c2 _).mono ?_; rintro e w3 ⟨rfl, hb2⟩
        replace HI : Hid (OwnC w w3 u7 (0 :: partsC (l.take k) s0)) := HI.out.below hb2
        replace r0 := RowAt.below r0 hb2
        clear z0 z1 zf hb2 c2 r1
        obtain ⟨X3, hX⟩ : ∃ X3, X3 = w3.alloc (.cells #[.int .u64 (hiN na : Int), .int .u64 (loN na : Int)] 25) := ⟨_, rfl⟩
        have hbX : Below w3.heap.size w3 X3 := by rw [hX]; exact below_new (Below.refl _ _) _
        have r1 : RowAt X3 w3.heap.size [.int .u64 (hiN na : Int), .int .u64 (loN na : Int)] 25 := by rw [hX]; exact RowAt.new _ _ _
        replace HI : Hid (OwnC w X3 u7 (0 :: partsC (l.take k) s0)) := HI.out.below hbX
        replace r0 := RowAt.below r0 hbX
        go_upto_region 11 with fail
        rw [← hX]
        clear hX hbX
        generalize w3.heap.size = gn at r1 ⊢
        obtain ⟨y0, y1, y2, y3, y4, y5, yf⟩ := six_of r0
        obtain ⟨z0, z1, zf⟩ := cells2 r1
        obtain ⟨v', w4, hrun, hO⟩ := (HI.out.below (below_new (Below.refl _ X3) (.cells #[.int .u64 (hiN pn : Int), .int .u64 (loN pn : Int), .int .u64 (hiN na : Int), .int .u64 (loN na : Int)] 25))).app (lit_two X3 pn na) (by simp only [List.length_cons, List.length_nil]; omega)
        have HO : Hid (OwnC w w4 v' (0 :: partsC (l.take (k + 1)) s0)) := by
          show OwnC _ _ _ _
          rw [HS.out, HP2.out]
          exact hO
        clear hO HI HS HP2
        go_wp2_with fail
        go_roundw
        case rel => exact ⟨k + 1, by omega, by go_num, HO⟩
        case measure => simp [Go.RowKit.intOf]; omega
      · have hs2 : six = !s0 := by cases s0 <;> cases six <;> simp_all
        have HO : Hid (OwnC w X u7 (0 :: partsC (l.take (k + 1)) six)) := by
          show OwnC _ _ _ _
          rw [HS.out, HP.out, if_neg hs, List.append_nil]
          exact HI.out
        clear HP HS HI c1 c2
        subst hs2
        obtain ⟨y0, y1, y2, y3, y4, y5, yf⟩ := six_of r0
        go_wp2_with fail
        go_roundw
        case rel => exact ⟨k + 1, by omega, by go_num, HO⟩
        case measure => simp [Go.RowKit.intOf]; omega
    · have hkn2 : k = n := by omega
      subst hkn2
      have hkd : decide ((k : Int) < (k : Int)) = false := decide_eq_false (by omega)
      have hI := HI.out
      rw [HN.out, List.take_length] at hI
      have hpl := partsC_len l six
      have hnl := HN.out
      obtain ⟨g, cap, rfl, hgw, hc1, hc2⟩ := hI.slice (by simp)
      have cs := sort_any (0 :: partsC l six) g cap (0 :: partsC l six).length w.heap.size wr rfl (by simp only [List.length_cons]; omega) HFE.out hI.own hgw hI.bl.size
      have hbl : Hid (Below w.heap.size w wr) := hI.bl
      have HSZ : Hid ((0 :: partsC l six).length ≤ 1000) := by show _ ≤ _; simp only [List.length_cons]; omega
      generalize (0 :: partsC l six).length = N at *
      clear HI hI hpl hnl HFE HF cl cx HR
      have HSO : Hid (∀ d', (∀ z, z ∈ d' ↔ z ∈ 0 :: partsC l six) → sortN d' = sortN (0 :: partsC l six)) := fun d' h => sortN_of (up_sortN d') (fun z => by rw [mem_sortN, h])
      go_wp2_with fail
      go_at_call 35; refine cs.mono ?_; rintro e w5 ⟨rfl, d', h1, h2, h3, h4, h5, h6⟩
      have cp := compact_any d' g cap N w.heap.size w5 h2.symm HSZ.out h1 h4 hgw (Nat.le_trans hbl.out.size h6) ⟨hc1, hc2⟩
      rw [HSO.out d' h3] at cp
      have HB5 : Hid (Below w.heap.size w w5) := hbl.out.trans h5
      clear cs h1 h2 h3 h4 h5 h6 hbl HSO
      obtain ⟨R, hR⟩ : ∃ R, R = sortN (0 :: partsC l six) := ⟨_, rfl⟩
      have HRR : Hid (R = sortN (0 :: partsC l six)) := hR
      rw [← hR] at cp
      clear hR
      go_wp2_with fail
      go_at_call 37; refine cp.mono ?_; rintro e w6 ⟨q, rfl, h7, h8⟩
      have hq : q = R.length := by have := h7.1; rw [adCs_len] at this; omega
      have HO : Hid (OwnC w w6 (.slice (some ⟨g, 0, none⟩) q cap) R) := ⟨by rw [← hq]; exact h7, HB5.out.trans h8⟩
      clear cp h7 h8 hq
      go_wp2_with fail
      go_ret2
      exact ⟨_, rfl, by rw [← HRR.out]; exact HO.out⟩
theorem OwnC.has {w W : World} {v : Value} {m : List Nat} (h : OwnC w W v m) : HasAds W v m := hasRow_own h.own
set_option maxHeartbeats 2000000 in
theorem cuts_bad (v : Value) (six : Bool) (w : World) (cc : ∀ W, Below w.heap.size w W → Calls Try.prog 9 #[v] W fun e w' => e = .returned (.int .i64 2) ∧ Below W.heap.size W w') :
    Calls Try.prog 18 #[v, .bool six] w fun e w' => e = .returned (.tuple #[.slice none 0 0, .int .i64 2]) ∧ Below w.heap.size w w' := by
  go_enter Try.func18, Try.ntmps18
  go_wp2_with fail
  go_at_call 9; refine (cc _ (Below.refl _ _)).mono ?_; rintro e w1 ⟨rfl, hb1⟩
  go_wp2_with fail
  go_ret2
  exact ⟨rfl, hb1⟩
/-- trie.Cuts -/
theorem cuts_any (l : List Rt) (v : Value) (six : Bool) (w : World) (hl : HasRts w v l) (hfit : ∀ r ∈ l, FitR r) :
    Calls Try.prog 18 #[v, .bool six] w fun e w' => ∃ o n c, e = .returned (.tuple #[.slice o n c, .int .i64 (cutsT l six).2]) ∧ HasAds w' (.slice o n c) (cutsT l six).1 ∧ Below w.heap.size w w' := by
  obtain ⟨o, c, rfl, hc1, hc2⟩ := Lk.HasRow.slice hl
  have cc := fun W h => Go.Proofs.Ytaaedgfacnaggaa.Tr.check_any l (.slice o l.length c) W h hfit
  cases hok : okT l with
  | false =>
    have e : cutsT l six = ([], 2) := by unfold cutsT; rw [hok]; rfl
    rw [e]
    refine (cuts_bad _ six w (fun W hb => ?_)).mono ?_
    · have := cc W (hl.keep hb)
      unfold checkT at this
      rw [hok] at this
      exact this
    · rintro e w' ⟨rfl, hb⟩
      exact ⟨none, 0, 0, rfl, Lk.hasRow_nil _ 2, hb⟩
  | true =>
    have e : cutsT l six = (sortN (0 :: partsC l six), 0) := by unfold cutsT; rw [hok]; rfl
    rw [e]
    have hlen := ((Go.Proofs.Ytaaedgfacnaggaa.Tr.okT_iff l).1 hok).1
    refine (cuts_walk l o _ c six w rfl hlen hl hfit (fun W h => ?_)).mono ?_
    · have := cc W h
      unfold checkT at this
      rw [hok] at this
      exact this
    · rintro e w' ⟨v, rfl, hO⟩
      obtain ⟨o2, c2, e2, _⟩ := Lk.HasRow.slice hO.has
      subst e2
      exact ⟨_, _, _, rfl, hO.has, hO.bl⟩
end Go.Proofs.Ytaaedgfacnaggaa.Ct
