/- What (*drive).holds and disk.Read return. -/
import Derived.Test.YtajcmgccclemdaaDiskCrash
import Derived.RangeFuncNested
import Derived.RangeFuncBound
import Derived.RangeFuncCalls
import Derived.RangeFuncLeaves
import Derived.RangeFuncBox
import Derived.Shelf.Abstract
import Derived.Shelf.RegionOpen
import Derived.OwnWalkIn
import Derived.TacticsInMore
import Derived.LoopNIn
import Derived.LoopIn
set_option linter.unusedVariables false
namespace Go.Proofs.Ytajcmgccclemdaa.Disk
open Go.RowKit Go.Shelf
attribute [local go_sem] Oper.semAt_some

abbrev BackT : Type := Nat × PutT
def encsP (x : BackT) : Array Value := #[.int .i64 (x.1 : Int), .agg #[.int .i64 x.2.1, .string ⟨x.2.2.toArray⟩]]
def backAt (ps : List PutT) (t : Nat) : BackT := (ps.length - 1 - t, ps.getD (ps.length - 1 - t) (0, []))
def upto (ps : List PutT) (j : Nat) : List BackT := (List.range j).map (backAt ps)
theorem upto_succ (ps : List PutT) (j : Nat) : upto ps (j + 1) = upto ps j ++ [backAt ps j] := by simp [upto, List.range_succ]
theorem upto_len (ps : List PutT) (j : Nat) : (upto ps j).length = j := by simp [upto]
set_option maxHeartbeats 1000000 in
theorem back1_stops (ps : List PutT) (o : Option Addr) (cap n Bn : Nat) (w : World) (hBn : Bn < w.heap.size) (hc : w.cell? ⟨Bn, 0, none⟩ = some (.slice o ps.length cap)) (hp : HasPuts w (.slice o ps.length cap) ps) (hl : ps.length ≤ 5000) :
    SeqStopsK Fence.wide n Try.prog 134 #[.pointer (some ⟨Bn, 0, none⟩)] encsP (Below w.heap.size) (fun xs => xs = upto ps ps.length) (fun pre => ∃ j, j ≤ ps.length ∧ pre = upto ps j) ps.length w := by
  intro lp J Jx W hW hJ hJx hY h0
  have hcW : W.cell? ⟨Bn, 0, none⟩ = some (.slice o ps.length cap) := (hW.cell (p := ⟨Bn, 0, none⟩) hBn).trans hc
  have HC : Hid (∀ j (hj : j < ps.length), ∃ b i, o = some ⟨b, i, none⟩ ∧ b < w.heap.size ∧ w.cell? ⟨b, i + j * 2, none⟩ = some (.int .i64 ps[j].1) ∧ w.cell? ⟨b, i + j * 2 + 1, none⟩ = some (strV ps[j].2)) := fun j hj => HasPuts.cell hp j hj
  have hWs := hW.size
  have HY : Hid _ := hY
  obtain ⟨m, hm⟩ : ∃ m, m = ps.length := ⟨_, rfl⟩
  have HM : Hid (m = ps.length) := hm
  have hm5 : m ≤ 5000 := by omega
  rw [← hm] at hcW
  clear hm hp hc hl hY
  show CallsIn Fence.wide n Try.prog 134 #[.func (.yield lp) #[] #[], .pointer (some ⟨Bn, 0, none⟩)] W _
  refine callsIn_of_wp Try.func134 rfl trivial ?_ rfl
  simp only [Try.ntmps134, List.size_toArray, List.length_cons, List.length_nil, Nat.reduceAdd, Nat.reduceSub, Array.replicate_succ, Array.replicate_zero, List.push_toArray, List.append_toArray, List.nil_append, List.cons_append]
  gi_wp2
  gi_loopw [3] (fun p wr => ∃ j : Nat, j ≤ m ∧ p = .int .i64 ((m : Int) - 1 - j) ∧ J (upto ps j) wr ∧ Below w.heap.size w wr) (fun p _ => (intOf p + 1).toNat)
  case atStart => exact ⟨0, by omega, by go_num, h0, hW⟩
  case round =>
    obtain ⟨j, hj, rfl, hJs, hB⟩ := hrel
    by_cases hlt : j < m
    · obtain ⟨k, hk⟩ : ∃ k, k = m - 1 - j := ⟨_, rfl⟩
      have hkz : k < ps.length := by rw [← HM.out]; omega
      obtain ⟨b, i, rfl, hb, e1, e2⟩ := HC.out k hkz
      have d0 := (hB.cell (p := ⟨Bn, 0, none⟩) hBn).trans ((hW.cell (p := ⟨Bn, 0, none⟩) hBn).symm.trans hcW)
      have d1 := (hB.cell (p := ⟨b, i + k * 2, none⟩) hb).trans e1
      have d2 := (hB.cell (p := ⟨b, i + k * 2 + 1, none⟩) hb).trans e2
      have hen : encsP (backAt ps j) = #[.int .i64 (k : Int), .agg #[.int .i64 ps[k].1, .string ⟨ps[k].2.toArray⟩]] := by
        unfold encsP backAt
        rw [← HM.out, ← hk]
        simp [hkz]
      rw [show ((m : Int) - 1 - j) = (k : Int) by omega]
      have hkj : (k : Int) - 1 = (m : Int) - 1 - (j + 1 : Nat) := by omega
      obtain ⟨fn, tmps, assign, body, hy, hR⟩ := HY.out (upto ps j) (backAt ps j) _ hJs (by rw [upto_len, ← HM.out]; exact hlt)
      rw [hen] at hy
      unfold strV at d2
      generalize (⟨ps[k].2.toArray⟩ : ByteArray) = PD at d2 hy
      generalize ps[k].1 = pa at d1 hy
      have HKJ : Hid ((k : Int) - 1 = (m : Int) - 1 - (j + 1 : Nat)) := hkj
      have hkm : k < m := by omega
      have HKK : Hid (k = m - 1 - j) := hk
      clear e1 e2 hen hkj hk
      gi_wp2
      refine ⟨fun h => by simp [Fence.wide] at h, ?_⟩
      refine hR.mono ?_
      rintro e W3 (⟨rfl, hJ3, hk3⟩ | ⟨rfl, hJx3⟩)
      · gi_wp2
        refine ⟨⟨j + 1, by omega, by rw [← HKJ.out]; try go_num, by rw [upto_succ]; exact hJ3, hB.trans hk3⟩, ?_⟩
        simp [intOf]
        try omega
      · gi_wp2
        (try simp only [Exit.inBlock, Exit.then])
        refine bodyPost_ret (results_none rfl _ _ _) rfl ?_
        exact ⟨⟨_, rfl⟩, .inr ⟨_, ⟨j + 1, by rw [← HM.out]; omega, (upto_succ ps j).symm⟩, hJx3⟩⟩
    · obtain rfl : j = m := by omega
      rw [show ((j : Int) - 1 - j) = -1 by omega]
      gi_wp2
      go_end0
      exact ⟨⟨_, rfl⟩, .inl ⟨_, rfl, by rw [← HM.out]; exact hJs⟩⟩

theorem backward_any (v : Value) (w : World) (hv : ∃ o n c, v = .slice o n c) :
    Calls Try.prog 114 #[v] w fun e w' => e = .returned (.func (.func 134) #[] #[.pointer (some ⟨w.heap.size, 0, none⟩)]) ∧ w' = w.alloc (.cells #[v] 36) := by
  obtain ⟨o, n, c, rfl⟩ := hv
  go_enter Try.func114, Try.ntmps114
  go_wp2
  go_ret
  exact ⟨rfl, rfl⟩
/-- the loop's variable -/
def PBox (B : Nat) (x : BackT) (W : World) (Bx : Nat) : Prop := B ≤ Bx ∧ W.heap[Bx]? = some (.cells #[.int .i64 x.2.1, .string ⟨x.2.2.toArray⟩] 88)
theorem pbox_own (B : Nat) (x : BackT) (Bx : Nat) : Own (fun (_ : Unit) W => PBox B x W Bx) := by
  rintro s X Y row ⟨h1, h2⟩ hg hrow
  refine ⟨h1, (hg.block Bx (Array.getElem?_eq_some_iff.1 h2).1 (fun e => ?_)).trans h2⟩
  obtain ⟨o, ho, hc⟩ := hrow Bx e.symm
  rw [h2] at ho; cases ho; cases hc
theorem PBox.cells {B : Nat} {x : BackT} {W : World} {Bx : Nat} (h : PBox B x W Bx) : W.cell? ⟨Bx, 0, none⟩ = some (.int .i64 x.2.1) ∧ W.cell? ⟨Bx, 1, none⟩ = some (.string ⟨x.2.2.toArray⟩) := by
  have := h.2
  exact ⟨by simp [World.cell?, this], by simp [World.cell?, this]⟩
/-- what a sector holds -/
def holdsL (secs : List (List UInt8)) (ps : List PutT) (at' : Int) : List UInt8 := ((ps.reverse.find? (fun p => p.1 == at')).map (·.2)).getD (secs.getD at'.toNat [])
theorem upto_rev (ps : List PutT) (j : Nat) (hj : j ≤ ps.length) : (upto ps j).map (·.2) = ps.reverse.take j := by
  apply List.ext_getElem
  · simp [upto]; omega
  · intro i h1 h2
    simp only [upto, List.length_map, List.length_range] at h1
    simp only [upto, List.map_map, List.getElem_map, List.getElem_range, Function.comp, backAt, List.getElem_take, List.getElem_reverse]
    rw [List.getD_eq_getElem?_getD, List.getElem?_eq_getElem (by omega)]
    rfl
theorem holds_none (secs : List (List UInt8)) (ps : List PutT) (at' : Nat) (h : ∀ x ∈ upto ps ps.length, (x.2.1 == (at' : Int)) = false) : holdsL secs ps (at' : Int) = secs.getD at' [] := by
  have h1 : ps.reverse.find? (fun p => p.1 == (at' : Int)) = none := by
    rw [List.find?_eq_none]
    intro p hp
    have h2 : p ∈ (upto ps ps.length).map (·.2) := by rw [upto_rev ps _ (Nat.le_refl _), List.take_of_length_le (by simp)]; exact hp
    obtain ⟨x, hx, rfl⟩ := List.mem_map.1 h2
    rw [h x hx]; decide
  rw [holdsL, h1, Int.toNat_natCast]; rfl
theorem holds_some (secs : List (List UInt8)) (ps : List PutT) (at' j : Nat) (hj : j ≤ ps.length) {pre : List BackT} {x : BackT} (e : upto ps j = pre ++ [x]) (h : ∀ y ∈ pre, (y.2.1 == (at' : Int)) = false) (hx : (x.2.1 == (at' : Int)) = true) : holdsL secs ps (at' : Int) = x.2.2 := by
  have h1 := upto_rev ps j hj
  rw [e, List.map_append, List.map_singleton] at h1
  have h2 : ps.reverse = pre.map (·.2) ++ (x.2 :: ps.reverse.drop j) := by
    conv => lhs; rw [← List.take_append_drop j ps.reverse, ← h1]
    simp
  have h3 : (pre.map (·.2)).find? (fun p => p.1 == (at' : Int)) = none := by
    rw [List.find?_eq_none]
    intro p hp
    obtain ⟨y, hy, rfl⟩ := List.mem_map.1 hp
    rw [h y hy]; decide
  rw [holdsL, h2, List.find?_append, h3, Option.none_or, List.find?_cons, hx]
  rfl
set_option maxHeartbeats 2000000 in
set_option maxRecDepth 20000 in
theorem holds_any (B at' : Nat) (s c : Value) (f : Int) (o : Bool) (secs : List (List UInt8)) (ps : List PutT) (w : World) (h : Box w B s c f o) (hs : HasStrs w s secs) (hc : HasPuts w c ps) (hat : at' < secs.length) (h1 : secs.length ≤ 1024) (hl : ps.length ≤ 5000) :
    Calls Try.prog 86 #[.pointer (some ⟨B, 0, none⟩), .int .i64 (at' : Int)] w fun e w' => e = .returned (strV (holdsL secs ps at')) ∧ Below w.heap.size w w' := by
  obtain ⟨so, sc, rfl, hs1, hs2⟩ := HasRow.slice hs
  obtain ⟨co, cc, rfl, hc1, hc2⟩ := HasRow.slice hc
  obtain ⟨q0, q1, q2, q3⟩ := h.cells
  have hBlt := h.lt
  refine (callsIn_wide (n := 5)).1 ?_
  refine callsIn_of_wp_marks Try.func86 rfl trivial ?_ rfl
  simp only [Try.ntmps86, List.size_toArray, List.length_cons, List.length_nil, Nat.reduceAdd, Nat.reduceSub, Array.replicate_succ, Array.replicate_zero, List.push_toArray, List.append_toArray, List.nil_append, List.cons_append]
  gi_wp2_with fail
  refine ⟨trivial, ?_⟩
  gi_at_call 114; refine (callsIn_wide.2 (backward_any _ _ ⟨_, _, _, rfl⟩)).mono ?_; rintro e w1 ⟨rfl, rfl⟩
  gi_wp2_with fail
  obtain ⟨W0, hW0⟩ : ∃ W0, ((w.alloc (.cells #[.int .i64 (at' : Int)] 3)).alloc (.cells #[.string ⟨#[]⟩] 9)).alloc (.cells #[.slice co ps.length cc] 36) = W0 := ⟨_, rfl⟩
  have hs0 : W0.heap.size = w.heap.size + 1 + 1 + 1 := by rw [← hW0]; simp
  have hB0 : Below w.heap.size w W0 := by rw [← hW0]; exact (((Below.refl _ w).alloc (Nat.le_refl _) _).alloc (by simp) _).alloc (by simp; omega) _
  have k0 : W0.cell? ⟨w.heap.size, 0, none⟩ = some (.int .i64 (at' : Int)) := by
    rw [← hW0, alloc_far (by simp; omega), alloc_far (by simp)]; exact alloc_cell _ _ _
  have k1 : Boxed W0 (w.heap.size + 1) 9 (.string ⟨#[]⟩) := by
    have := (Boxed.new (w.alloc (.cells #[.int .i64 (at' : Int)] 3)) 9 (.string ⟨#[]⟩)).alloc (.cells #[.slice co ps.length cc] 36)
    rw [World.size_alloc, hW0] at this
    exact this
  have k2 : W0.cell? ⟨w.heap.size + 1 + 1, 0, none⟩ = some (.slice co ps.length cc) := by
    have := alloc_cell ((w.alloc (.cells #[.int .i64 (at' : Int)] 3)).alloc (.cells #[.string ⟨#[]⟩] 9)) (.slice co ps.length cc) 36
    rw [World.size_alloc, World.size_alloc, hW0] at this
    exact this
  rw [hW0]
  clear hW0
  refine wpIn_rangeFunc_ownH (α := BackT) rfl (by omega) (gf := 134) (lb := #[.pointer (some ⟨w.heap.size + 1 + 1, 0, none⟩)]) rfl trivial (enters_of Try.func134 (by kernel_rfl) rfl)
    (back1_stops ps co cc (5 - 1) (w.heap.size + 1 + 1) W0 (by omega) k2 (hc.keep hB0) hl) belowK_t (belowK_b (Nat.le_refl _)) (Below.refl _ _) (fun _ => rfl)
    (fun pre W => Below W0.heap.size W0 W ∧ ∀ x ∈ pre, (x.2.1 == (at' : Int)) = false)
    (fun c pre W => (∃ pre' x, pre = pre' ++ [x] ∧ (∀ y ∈ pre', (y.2.1 == (at' : Int)) = false) ∧ (x.2.1 == (at' : Int)) = true ∧ c = .ret ∧ Boxed W (w.heap.size + 1) 9 (.string ⟨x.2.2.toArray⟩)) ∧ Below w.heap.size w W)
    (OwnFrom.and (ownFrom_below (Nat.le_refl _) (Nat.le_refl _)) (ownFrom_pure _ _))
    (fun c s A B row hs hg hr => ⟨by
      obtain ⟨⟨pre', x, e1, e2, e3, e4, e5⟩, _⟩ := hs
      exact ⟨pre', x, e1, e2, e3, e4, Own.from (boxed_own _ _ (fun (_ : Unit) => .string ⟨x.2.2.toArray⟩)) _ () A B row e5 hg hr⟩, ownFrom_below (β := Unit) (Nat.le_refl _) (by omega) () A B row hs.2 hg hr⟩)
    ⟨Below.refl _ _, by simp⟩
    (fun x a' W => ∃ Bx, PBox W0.heap.size x W Bx ∧ a' = { tmps := #[.pointer (some ⟨B, 0, none⟩), .int .i64 (at' : Int), undef, .pointer (some ⟨w.heap.size, 0, none⟩), .pointer (some ⟨w.heap.size + 1, 0, none⟩), undef, .pointer (some ⟨Bx, 0, none⟩), .pointer (some ⟨B, 0, none⟩), .pointer (some ⟨B, 0, none⟩), .pointer (some ⟨B, 0, none⟩), .pointer (some ⟨B, 1, none⟩), .slice co ps.length cc, .func (.func 134) #[] #[.pointer (some ⟨w.heap.size + 1 + 1, 0, none⟩)], .int .i64 (x.1 : Int), .agg #[.int .i64 x.2.1, .string ⟨x.2.2.toArray⟩], undef, undef, undef, undef, undef, undef, undef, undef, undef, undef, undef, undef, undef, undef], defers := [] })
    (fun x a' s A B row hs hg hr => by
      obtain ⟨Bx, h, e⟩ := hs
      exact ⟨Bx, Own.from (pbox_own _ x Bx) _ () A B row h hg hr, e⟩)
    ?assign ?body ?done ?stop
  case assign =>
    rintro lp pre x W K ⟨hI1, hI2⟩ hK
    have hA := hK _ _ ((KeepsOthers.alloc W (.cells #[.int .i64 x.2.1, .string ⟨x.2.2.toArray⟩] 88)).from _) ((Below.refl _ W).alloc hI1.size _) ⟨hI1.alloc hI1.size _, hI2⟩ ⟨W.heap.size, ⟨hI1.size, World.alloc_heap_new W _⟩, rfl⟩
    unfold encsP
    gi_wp2
    exact hA
  case body =>
    rintro lp pre x a' W hlp ⟨rr, hrr⟩ ⟨hI1, hI2⟩ ⟨Bx, hF, rfl⟩ hlt
    obtain ⟨f0, f1⟩ := hF.cells
    have e0 := (hI1.cell (p := ⟨w.heap.size, 0, none⟩) (show w.heap.size < W0.heap.size by omega)).trans k0
    have bx := (hI1.block (w.heap.size + 1) (by omega)).trans k1
    have bx' : Boxed W (w.heap.size + 1) 9 (.string ⟨#[]⟩) := bx
    have e1 := bx'.cell
    have e2 := bx'.frozen
    have HI : Hid (Below W0.heap.size W0 W ∧ ∀ x ∈ pre, (x.2.1 == (at' : Int)) = false) := ⟨hI1, hI2⟩
    have HBX : Hid (Boxed W (w.heap.size + 1) 9 (.string ⟨#[]⟩)) := bx'
    cases hx : (x.2.1 == (at' : Int)) with
    | true =>
      have HX : Hid ((x.2.1 == (at' : Int)) = true) := hx
      clear hI1 hI2 bx bx'
      gi_wp2
      refine ⟨(KeepsOthers.setCell _ _ _).from _, ⟨pre, x, rfl, HI.out.2, HX.out, rfl, HBX.out.set _⟩, (hB0.trans (HI.out.1.mono (by omega))).setCell (p := ⟨w.heap.size + 1, 0, none⟩) (show w.heap.size ≤ w.heap.size + 1 by omega) _⟩
    | false =>
      have HX : Hid ((x.2.1 == (at' : Int)) = false) := hx
      clear hI1 hI2 bx bx'
      gi_wp2
      refine ⟨KeepsFrom.refl _ _, Below.refl _ _, HI.out.1, fun y hy => ?_⟩
      rcases List.mem_append.1 hy with hy | hy
      · exact HI.out.2 y hy
      · simp at hy; rw [hy]; exact HX.out
  case done =>
    rintro D xs W hD rfl ⟨hI1, hI2⟩ hK
    have HS : Hid (holdsL secs ps (at' : Int) = secs.getD at' []) := holds_none secs ps at' hI2
    have e0 := (hI1.cell (p := ⟨w.heap.size, 0, none⟩) (show w.heap.size < W0.heap.size by omega)).trans k0
    have bx' : Boxed W (w.heap.size + 1) 9 (.string ⟨#[]⟩) := (hI1.block (w.heap.size + 1) (by omega)).trans k1
    have e1 := bx'.cell
    have e2 := bx'.frozen
    have hBW : Below w.heap.size w W := hB0.trans (hI1.mono (by omega))
    have e3 := (hBW.cell (p := ⟨B, 0, none⟩) hBlt).trans q0
    obtain ⟨b, i, rfl, hb, ec⟩ := HasStrs.cell hs at' hat
    have e4 := (hBW.cell (p := ⟨b, i + at', none⟩) hb).trans ec
    have HV : Hid (strV (holdsL secs ps (at' : Int)) = .string ⟨secs[at'].toArray⟩) := by show _ = _; rw [HS.out, List.getD_eq_getElem?_getD, List.getElem?_eq_getElem hat]; rfl
    unfold strV at e4
    clear ec hs h HS
    generalize (⟨secs[at'].toArray⟩ : ByteArray) = Z at e4 HV
    have hat2 : (at' : Int) < (secs.length : Int) := by omega
    have HBX : Hid (Boxed W (w.heap.size + 1) 9 (.string ⟨#[]⟩)) := bx'
    have mixed : Try.prog.follows .mixedOrders = true := by kernel_rfl
    clear hc q0 q1 q2 q3 hI2 bx'
    gi_wp2_with fail
    gi_region_o
    gi_wp2
    have hK2 : ((W.setCell ⟨w.heap.size + 1, 0, none⟩ (.string Z)).drew).heap[D]? = some (.deferred (some [])) := (KeepsOthers.setCell W ⟨w.heap.size + 1, 0, none⟩ (.string Z)).same D _ hK rfl
    refine ⟨by simp, .inl ⟨_, _, rfl, run_takeDeferred (w := (W.setCell ⟨w.heap.size + 1, 0, none⟩ (.string Z)).drew) hK2, ?_⟩⟩
    have bz : Boxed ((W.setCell ⟨w.heap.size + 1, 0, none⟩ (.string Z)).drew) (w.heap.size + 1) 9 (.string Z) := HBX.out.set _
    have bx := (bz.kept (grownBy_putObj' _ D (.deferred none)) (by simp; omega)).cell
    refine ⟨.string Z, ?_, by rw [HV.out], ((hBW.setCell (p := ⟨w.heap.size + 1, 0, none⟩) (show w.heap.size ≤ w.heap.size + 1 by omega) (.string Z)).drew).trans (belowK_b (w := w) (Nat.le_refl _) _ D _ _ (by omega) hK2 rfl rfl)⟩
    simp [results, Try.results86, go_sem]
    rw [bx]
  case stop =>
    rintro D c pre W hD ⟨j, hj, rfl⟩ ⟨⟨pre', x, e1, e2, e3, rfl, e5⟩, hB⟩ hK
    have HS : Hid (holdsL secs ps (at' : Int) = x.2.2) := holds_some secs ps at' j hj e1 e2 e3
    gi_wp2
    refine ⟨by simp, .inl ⟨_, _, rfl, run_takeDeferred (w := W) hK, ?_⟩⟩
    have bx := (e5.kept (grownBy_putObj' W D (.deferred none)) (by simp; omega)).cell
    refine ⟨.string ⟨x.2.2.toArray⟩, ?_, by rw [HS.out]; rfl, hB.trans (belowK_b (w := w) (Nat.le_refl _) W D _ _ (by omega) hK rfl rfl)⟩
    simp [results, Try.results86, go_sem]
    rw [bx]

def readD (d : Dk) (at' : Int) : List UInt8 × Int := if okB d = true then (if d.off = true then ([], 9) else if inB d.secs.length at' = true then (holdsL d.secs d.cache at', 0) else ([], 1)) else ([], 2)
def TextIs (r : List UInt8 × Int) (w : World) (e : Ending) (w' : World) : Prop := e = .returned (.tuple #[strV r.1, .int .i64 r.2]) ∧ Below w.heap.size w w'
theorem textIs_of {r : List UInt8 × Int} {w w' : World} {l : List UInt8} {n : Int} (h : r = (l, n)) (hb : Below w.heap.size w w') : TextIs r w (.returned (.tuple #[.string ⟨l.toArray⟩, .int .i64 n])) w' := by rw [h]; exact ⟨rfl, hb⟩
theorem holdsL_len (d : Dk) (h : Ok d) (k : Nat) (hk : k < d.secs.length) : (holdsL d.secs d.cache (k : Int)).length = 128 := by
  unfold holdsL
  cases hf : d.cache.reverse.find? (fun p => p.1 == (k : Int)) with
  | none => rw [Int.toNat_natCast]; exact h.whole _ (getD_mem hk)
  | some p => exact (h.puts p (by have := List.mem_of_find?_eq_some hf; simpa using this)).2
set_option maxHeartbeats 2000000 in
theorem read_fn (d : Dk) (v : Value) (at' : Int) (w : World) (h : HasDk w v d) (hf : Fits d) (hat : -9223372036854775808 ≤ at' ∧ at' ≤ 9223372036854775807) : Calls Try.prog 46 #[v, .int .i64 at'] w (TextIs (readD d at') w) := by
  have cchk := fun W (hb : Below w.heap.size w W) => check_any d v W (h.keep hb) hf
  obtain ⟨s, c, rfl, hs, hc⟩ := h
  obtain ⟨so, sc, rfl, hs1, hs2⟩ := HasRow.slice hs
  obtain ⟨co, cc, rfl, hc1, hc2⟩ := HasRow.slice hc
  have HSC : Hid (HasStrs w (.slice so d.secs.length sc) d.secs ∧ HasPuts w (.slice co d.cache.length cc) d.cache) := ⟨hs, hc⟩
  have hB0 : ∀ o, Below w.heap.size w (w.alloc o) := fun o => (Below.refl _ w).alloc (Nat.le_refl _) o
  clear hs hc hf
  by_cases hok : okB d = true
  · have HK : Hid (Ok d) := ok_of hok
    have HR : Hid (readD d at' = (if d.off = true then ([], 9) else if inB d.secs.length at' = true then (holdsL d.secs d.cache at', 0) else ([], 1))) := by show _ = _; rw [readD, if_pos hok]
    rw [checkE_ok hok] at cchk
    clear hok
    go_enter Try.func46, Try.ntmps46
    go_wp2_with fail
    go_at_call 51; refine (cchk _ (hB0 _)).mono ?_; rintro e w1 ⟨rfl, hb⟩
    have hbw := below2 (hB0 _) hb
    have hP1 : ∀ k, w1.cell? ⟨w.heap.size, k, none⟩ = #[Value.slice so d.secs.length sc, .slice co d.cache.length cc, .int .i64 d.fuse, .bool d.off][k]? := fun k => by
      rw [(bcell hb).1 _ _ (by simp)]
      simp only [World.cell?, heap_alloc_new]
      exact if_neg (by simp)
    have k0 := hP1 0
    have k1 := hP1 1
    have k2 := hP1 2
    have k3 := hP1 3
    simp only [List.getElem?_toArray, List.getElem?_cons_zero, List.getElem?_cons_succ] at k0 k1 k2 k3
    clear hP1
    have hbW : ∀ o, Below w.heap.size w (w1.alloc o) := fun o => hbw.alloc hbw.size _
    by_cases ho : d.off = true
    · have HR2 : Hid (readD d at' = ([], 9)) := by show _ = _; rw [HR.out, if_pos ho]
      rw [ho] at k3 ⊢
      clear HR ho
      go_wp2
      go_ret2
      exact textIs_of HR2.out (hbW _)
    · have ho' : d.off = false := by simpa using ho
      rw [if_neg ho] at HR
      have HKEEP : Hid (d.off = false) := ho'
      rw [ho'] at k3
      have hcell : ∀ o, (w1.alloc (.cells #[.slice so d.secs.length sc, .slice co d.cache.length cc, .int .i64 d.fuse, .bool o] 97)).cell? ⟨w1.heap.size, 0, none⟩ = some (.slice so d.secs.length sc) := fun o => by
        simp only [World.cell?, heap_alloc_new]; exact if_neg (by simp)
      have ch := fun W hc => has_any w1.heap.size 0 d.secs.length sc so at' W hat hc (by omega)
      by_cases hin : inB d.secs.length at' = true
      · have HR2 : Hid (readD d at' = (holdsL d.secs d.cache at', 0)) := by show _ = _; rw [HR.out, if_pos hin]
        rw [show decide (0 ≤ at' ∧ at' < (d.secs.length : Int)) = true from hin] at ch
        have hin2 : 0 ≤ at' ∧ at' < (d.secs.length : Int) := by simpa [inB] using hin
        obtain ⟨k, rfl⟩ := Int.eq_ofNat_of_zero_le hin2.1
        have hkl : k < d.secs.length := by omega
        have hhl := holdsL_len d HK.out k hkl
        have cho := fun (o : Bool) => holds_any w1.heap.size k (.slice so d.secs.length sc) (.slice co d.cache.length cc) d.fuse o d.secs d.cache (w1.alloc (.cells #[.slice so d.secs.length sc, .slice co d.cache.length cc, .int .i64 d.fuse, .bool o] 97)) (heap_alloc_new _ _) (HSC.out.1.keep (hbW _)) (HSC.out.2.keep (hbW _)) hkl HK.out.many (by have := HK.out.few; omega)
        have ccl := fun W => clone_any ⟨(holdsL d.secs d.cache (k : Int)).toArray⟩ W (by rw [size_list, hhl]; omega)
        unfold strV at cho
        have HT : Hid (∀ w', Below w.heap.size w w' → TextIs (readD d (k : Int)) w (.returned (.tuple #[.string ⟨(holdsL d.secs d.cache (k : Int)).toArray⟩, .int .i64 0])) w') := fun w' hb => textIs_of HR2.out hb
        generalize (⟨(holdsL d.secs d.cache (k : Int)).toArray⟩ : ByteArray) = Z at cho ccl HT
        clear hin HR HR2 ho ho' hhl hin2
        go_wp2_with fail
        go_at_call 85; refine (ch _ (hcell _)).mono ?_; rintro e w2 ⟨rfl, rfl⟩
        go_wp2_with fail
        go_at_call 86; refine (cho _).mono ?_; rintro e w2 ⟨rfl, hb2⟩
        go_wp2_with fail
        go_at_call 83; refine (ccl _).mono ?_; rintro e w3 ⟨rfl, hb3⟩
        go_wp2
        go_ret2
        exact HT.out _ (below2 (below2 (hbW _) hb2) hb3)
      · have hin' : inB d.secs.length at' = false := by simpa using hin
        have HR2 : Hid (readD d at' = ([], 1)) := by show _ = _; rw [HR.out, if_neg hin]
        rw [show decide (0 ≤ at' ∧ at' < (d.secs.length : Int)) = false from hin'] at ch
        clear hin hin' HR ho ho'
        go_wp2_with fail
        go_at_call 85; refine (ch _ (hcell _)).mono ?_; rintro e w2 ⟨rfl, rfl⟩
        go_wp2
        go_ret2
        exact textIs_of HR2.out (hbW _)
  · have hok' : okB d = false := by simpa using hok
    have HR2 : Hid (readD d at' = ([], 2)) := by show _ = _; rw [readD, if_neg hok]
    rw [checkE_bad hok'] at cchk
    clear hok hok'
    go_enter Try.func46, Try.ntmps46
    go_wp2_with fail
    go_at_call 51; refine (cchk _ (hB0 _)).mono ?_; rintro e w1 ⟨rfl, hb⟩
    go_wp2
    go_ret2
    exact textIs_of HR2.out (below2 (hB0 _) hb)
end Go.Proofs.Ytajcmgccclemdaa.Disk
