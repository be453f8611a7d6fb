/- slices.SortFunc of addresses, by addr.Cmp, in a row that the caller owns. -/
import Derived.Test.YtmkbijnndbgjgaaShelfS
import Derived.Test.YtmkbijnndbgjgaaCtComp
import Derived.Test.YtmkbijnndbgjgaaAddrCmp
import Derived.Shelf.SlSortCmp.NoneTotal
set_option linter.unusedVariables false
namespace Go.Proofs.Ytmkbijnndbgjgaa.Ct
open Go.RowKit Go.Shelf Go.Lib Go.Sort
open Go.Proofs.Ytmkbijnndbgjgaa.Addr (hiN loN adV cmpN hiN_lt loN_lt compare_any or_any cmp_parts RowAt below2 below_drew below_new bset RowAt.lt RowAt.cell RowAt.frozen RowAt.below RowAt.drew RowAt.new RowAt.alloc cells2)
abbrev Ad := { n : Nat // n < 2 ^ 128 }
def encA (x : Ad) : List Value := [.int .u64 (hiN x.1 : Int), .int .u64 (loN x.1 : Int)]
def cfA (x y : Ad) : Int := cmpN x.1 y.1
theorem ltA (x y : Ad) : ltOf cfA x y = decide (x.1 < y.1) := by
  unfold ltOf cfA cmpN
  by_cases h1 : x.1 < y.1
  · simp [h1]
  · rw [if_neg h1, decide_eq_false h1]
    split <;> rfl
theorem swoA : SWO (ltOf cfA) where
  irrefl x := by rw [ltA]; simp
  trans x y z h1 h2 := by rw [ltA] at *; simp at *; omega
  ntrans x y z h1 h2 := by rw [ltA] at *; simp at *; omega
theorem grow_of {W w' : World} (h : Below W.heap.size W w') (hd : W.drawn ≤ w'.drawn) : ∃ q os', w' = grow (W.drewN q) os' := by
  refine ⟨w'.drawn - W.drawn, w'.heap.extract W.heap.size w'.heap.size, ?_⟩
  obtain ⟨h1, h2, h3, h4, h5⟩ := h
  cases w' with
  | mk hp tp dr os ou =>
    cases W with
    | mk hp0 tp0 dr0 os0 ou0 =>
      simp only [grow, World.drewN] at *
      subst h1 h2 h3
      congr 1
      · apply Array.ext_getElem?
        intro k
        by_cases hk : k < hp0.size
        · rw [Array.getElem?_append_left hk, h5 k hk]
        · rw [Array.getElem?_append_right (by omega), Array.getElem?_extract]
          by_cases hk2 : k < hp.size
          · rw [if_pos (by omega)]; congr 1; omega
          · rw [if_neg (by omega), Array.getElem?_eq_none (by omega)]
      · omega
set_option maxHeartbeats 2000000 in
theorem cmp_grow (n m : Nat) (w : World) (hn : n < 2 ^ 128) (hm : m < 2 ^ 128) : Calls Try.prog 89 #[adV n, adV m] w fun e w' => e = .returned (.int .i64 (cmpN n m)) ∧ ∃ q os', w' = grow (w.drewN q) os' := by
  have c1 := fun w => compare_any (hiN n) (hiN m) w (by have := hiN_lt hn; omega) (by have := hiN_lt hm; omega)
  have c2 := fun w => compare_any (loN n) (loN m) w (by have := loN_lt n; omega) (by have := loN_lt m; omega)
  have HR : Hid ((if cmpN (hiN n) (hiN m) = 0 then cmpN (loN n) (loN m) else cmpN (hiN n) (hiN m)) = cmpN n m) := cmp_parts n m
  unfold adV
  generalize cmpN (hiN n) (hiN m) = x at *
  generalize cmpN (loN n) (loN m) = y at *
  generalize cmpN n m = R at HR ⊢
  have c3 := fun g w h => or_any x y g w h
  rw [HR.out] at c3
  clear HR
  generalize hiN n = a at *
  generalize hiN m = b at *
  generalize loN n = c at *
  generalize loN m = d at *
  clear hn hm
  have h3 : RowAt (((w.alloc (.cells #[.int .u64 (a : Int), .int .u64 (c : Int)] 95)).alloc (.cells #[.int .u64 (b : Int), .int .u64 (d : Int)] 95)).alloc (.cells #[.int .i64 x, .int .i64 y] 3)).drew (w.heap.size + 1 + 1) [.int .i64 x, .int .i64 y] 3 := by
    have := RowAt.new ((w.alloc (.cells #[.int .u64 (a : Int), .int .u64 (c : Int)] 95)).alloc (.cells #[.int .u64 (b : Int), .int .u64 (d : Int)] 95)) [.int .i64 x, .int .i64 y] 3
    rw [World.size_alloc, World.size_alloc] at this
    exact this.drew
  have HG : Hid (∃ q os', (((w.alloc (.cells #[.int .u64 (a : Int), .int .u64 (c : Int)] 95)).alloc (.cells #[.int .u64 (b : Int), .int .u64 (d : Int)] 95)).alloc (.cells #[.int .i64 x, .int .i64 y] 3)).drew = grow (w.drewN q) os') := grow_of (below_drew (below_new (below_new (below_new (Below.refl _ w) _) _) _)) (by simp only [World.drew, World.alloc]; omega)
  go_enter Try.func89, Try.ntmps89
  go_wp2_with fail
  go_region_held3 (fun w' => w'.cell? ⟨w.heap.size, 0, none⟩ = some (.int .u64 (a : Int)) ∧ w'.cell? ⟨w.heap.size, 1, none⟩ = some (.int .u64 (c : Int)) ∧ w'.cell? ⟨w.heap.size + 1, 0, none⟩ = some (.int .u64 (b : Int)) ∧ w'.cell? ⟨w.heap.size + 1, 1, none⟩ = some (.int .u64 (d : Int)))
    (go_keep)
    (first
    | (go_at_call 107; with_reducible refine (c1 _).mono ?_; rintro e w2 ⟨rfl, rfl⟩)
    | (go_at_call 107; with_reducible refine (c2 _).mono ?_; rintro e w2 ⟨rfl, rfl⟩)
    | (go_at_call 106; with_reducible refine (c3 _ _ h3).mono ?_; rintro e w2 ⟨rfl, rfl⟩))
  go_wp2_with fail
  go_ret
  exact ⟨rfl, HG.out⟩
/-- a row's cells, laid anew in an owned row -/
theorem own_sorted {w : World} {B e gr n cap q : Nat} {os : Array Obj} {xs : List Value} (h : w.ownsRow B e 2 (.slice (some ⟨gr, 0, none⟩) n cap) n xs) (F : Array Value) (hF : F.size = n * 2) :
    (grow (putRow id (Sort.ahead w q) gr 0 F) os).ownsRow B e 2 (.slice (some ⟨gr, 0, none⟩) n cap) n F.toList ∧ w.grownBy (grow (putRow id (Sort.ahead w q) gr 0 F) os) (some gr) := by
  have hg : w.grownBy (grow (putRow id (Sort.ahead w q) gr 0 F) os) (some gr) := by
    refine ⟨rfl, rfl, rfl, by simp, fun k hk hne => ?_⟩
    rw [heap_grow_old _ _ (by simpa using hk)]
    have : gr ≠ k := fun e => hne (by rw [e])
    simp [putRow, mapBlock, Sort.ahead, Array.getElem?_modify, this]
  refine ⟨⟨by simpa using hF, ?_⟩, hg⟩
  rcases h.2 with ⟨e0, _⟩ | ⟨g', cap', cur, e1, hgB, hgb, hnc, hcm, hcs, htk⟩
  · cases e0
  · injection e1 with e1 _ e3
    injection e1 with e1
    injection e1 with e1
    subst e1 e3
    have hgl : gr < w.heap.size := (Array.getElem?_eq_some_iff.1 hgb).1
    refine .inr ⟨gr, cap, putCells id 0 F cur, rfl, hgB, ?_, hnc, hcm, by simp [putCells, hcs], ?_⟩
    · rw [heap_grow_old _ _ (by simpa using hgl)]
      simp [putRow, mapBlock, Sort.ahead, Array.getElem?_modify, hgb, onCells]
    · have hle : n * 2 ≤ cap * 2 := Nat.mul_le_mul_right 2 hnc
      apply List.ext_getElem?
      intro j
      by_cases hj : j < n * 2
      · rw [List.getElem?_take_of_lt hj, Array.getElem?_toList]
        have h1 : j < cur.size := by omega
        have h2 : j < F.size := by omega
        simp [putCells, h1, h2]
      · rw [List.getElem?_take_eq_none (by omega), List.getElem?_eq_none (by simp; omega)]
theorem flat_ads [Inhabited Ad] (l : List Ad) : (flatK encA 2 l.toArray).toList = adCs (l.map (·.1)) := by
  apply List.ext_getElem?
  intro t
  by_cases ht : t < l.length * 2
  · have hq : t / 2 < l.length := by omega
    have h := adCs_at (l.map (·.1)) (t / 2) (by simpa using hq)
    have hs : t < (flatK encA 2 l.toArray).size := by simpa using ht
    rw [Array.getElem?_toList, Array.getElem?_eq_getElem hs]
    have hg := get_flatK encA 2 l.toArray t (by simpa using ht)
    rw [getElem!_pos (flatK encA 2 l.toArray) t hs] at hg
    rw [hg]
    have hl : l.toArray[t / 2]! = l[t / 2] := by simp [hq]
    rw [hl]
    rcases Nat.mod_two_eq_zero_or_one t with h0 | h0
    · rw [h0]
      have e : t = 2 * (t / 2) := by omega
      have := h.1
      rw [← e] at this
      rw [this]
      simp [encA]
    · rw [h0]
      have e : t = 2 * (t / 2) + 1 := by omega
      have := h.2
      rw [← e] at this
      rw [this]
      simp [encA]
  · rw [List.getElem?_eq_none (by simp; omega), List.getElem?_eq_none (by rw [adCs_len]; simp; omega)]
theorem lift_ads : ∀ (d : List Nat), (∀ x ∈ d, x < 2 ^ 128) → ∃ l : List Ad, l.map (·.1) = d
  | [], _ => ⟨[], rfl⟩
  | x :: d, h => by
    obtain ⟨l, hl⟩ := lift_ads d (fun y hy => h y (List.mem_cons_of_mem _ hy))
    exact ⟨⟨x, h x List.mem_cons_self⟩ :: l, by rw [List.map_cons, hl]⟩
end Go.Proofs.Ytmkbijnndbgjgaa.Ct
