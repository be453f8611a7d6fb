/- The iterator page.pieces, and what page.Split returns, for every tag and data. -/
import Derived.Test.YtajcmgccclemdabPageTag
import Derived.RangeFuncNested
import Derived.RangeFuncBound
import Derived.RangeFuncCalls
import Derived.RangeFuncLeaves
import Derived.RangeFuncBox
import Derived.Shelf.Abstract
import Derived.Shelf.RegionOpen
import Derived.OwnWalkIn
import Derived.OwnWalk
import Derived.TacticsInMore
import Derived.LoopNIn
import Derived.LoopIn
import Derived.Maps.AppendAt
set_option linter.unusedVariables false
namespace Go.Proofs.Ytajcmgccclemdab.Page
open Go.RowKit Go.Shelf
attribute [local go_sem] Oper.semAt_some
attribute [-go_sem] Builtin.append_

def strV (p : List UInt8) : Value := .string ⟨p.toArray⟩
/-- a piece of data, and how many there are -/
def pieceL (l : List UInt8) (k : Nat) : List UInt8 := (l.drop (111 * k)).take 111
def cntL (l : List UInt8) : Nat := (l.length + 110) / 111
theorem pieceL_len (l : List UInt8) (k : Nat) : (pieceL l k).length ≤ 111 := by rw [pieceL, List.length_take]; omega
def encP (l : List UInt8) (k : Nat) : Array Value := #[strV (pieceL l k)]
/-- the pages of data -/
def pagesL (l : List UInt8) (t : Nat) (ks : List Nat) : List (List UInt8) := ks.mapIdx fun i k => pageL (t + i) (pieceL l k)
theorem pagesL_len (l : List UInt8) (t : Nat) (ks : List Nat) : (pagesL l t ks).length = ks.length := by simp [pagesL]
theorem pagesL_snoc (l : List UInt8) (t : Nat) (ks : List Nat) (k : Nat) : pagesL l t (ks ++ [k]) = pagesL l t ks ++ [pageL (t + ks.length) (pieceL l k)] := by
  rw [pagesL, List.mapIdx_concat]; rfl
def splitL (t : Nat) (l : List UInt8) : List (List UInt8) := pagesL l t (List.range (cntL l))
/-- a box that is kept -/
def Kb (B : Nat) (W W' : World) : Prop := W.heap.size ≤ W'.heap.size ∧ ∀ v, Boxed W B 9 v → Boxed W' B 9 v
theorem Kb.trans {B : Nat} {X Y Z : World} (h : Kb B X Y) (k : Kb B Y Z) : Kb B X Z := ⟨Nat.le_trans h.1 k.1, fun v hv => k.2 v (h.2 v hv)⟩
theorem Kb.put {B : Nat} (W : World) (l : Nat) (o o' : Obj) (h : W.heap[l]? = some o) (hc : o.isCells = false) : Kb B W (W.putObj l o') :=
  ⟨(grownBy_putObj' W l o').size, fun v hv => hv.kept (grownBy_putObj' W l o') (fun e => by
    cases e; rw [show W.heap[B]? = _ from hv] at h; cases h; cases hc)⟩
theorem Kb.grown {B : Nat} {W W' : World} {row : Option Nat} (hg : W.grownBy W' row) (hne : some B ≠ row) : Kb B W W' := ⟨hg.size, fun v hv => hv.kept hg hne⟩
theorem Kb.below {B : Nat} {W W' : World} (h : Below W.heap.size W W') : Kb B W W' := ⟨h.size, fun v hv => (h.block _ hv.lt).trans hv⟩
theorem Kb.set {B : Nat} (W : World) (b : Nat) (v : Value) (hb : B ≠ b) : Kb B W (W.setCell ⟨b, 0, none⟩ v) := Kb.grown (grownBy_setCell' W b v) (fun e => hb (by cases e; rfl))
theorem grown_of {w w' : World} (h : Below w.heap.size w w') : w.grownBy w' none := ⟨h.os, h.tape, h.output, h.size, fun k hk _ => h.block k hk⟩
theorem extract_piece (l : List UInt8) (k : Nat) : (⟨l.toArray⟩ : ByteArray).extract (111 * k) (min (111 * k + 111) l.length) = ⟨(pieceL l k).toArray⟩ := by
  apply ByteArray.ext
  rw [ByteArray.data_extract]
  apply Array.toList_inj.1
  rw [pieceL]
  rw [Array.toList_extract, List.extract_eq_take_drop]
  show (l.drop (111 * k)).take _ = _
  rw [List.take_eq_take_iff, List.length_drop]
  omega
set_option maxHeartbeats 1000000 in
theorem pieces1_stops (l : List UInt8) (hl : l.length ≤ 14208) (n Bn : Nat) (w : World) (hB : Boxed w Bn 9 (strV l)) :
    SeqStopsK Fence.wide n Try.prog 81 #[.pointer (some ⟨Bn, 0, none⟩)] (encP l) (Kb Bn) (fun xs => xs = List.range (cntL l)) (fun _ => True) (cntL l + 1) w := by
  intro lp J Jx W hW hJ hJx hY h0
  have hbW : Boxed W Bn 9 (strV l) := (hW.block _ hB.lt).trans hB
  show CallsIn Fence.wide n Try.prog 81 #[.func (.yield lp) #[] #[], .pointer (some ⟨Bn, 0, none⟩)] W _
  refine callsIn_of_wp Try.func81 rfl trivial ?_ rfl
  simp only [Try.ntmps81, List.size_toArray, List.length_cons, List.length_nil, Nat.reduceAdd, Nat.reduceSub, Array.replicate_succ, Array.replicate_zero, List.push_toArray, List.append_toArray, List.nil_append, List.cons_append]
  have hz : (⟨l.toArray⟩ : ByteArray).size = l.length := size_list l
  obtain ⟨S, hS⟩ : ∃ S : ByteArray, S = ⟨l.toArray⟩ := ⟨_, rfl⟩
  rw [← hS] at hz
  have HS : Hid (S = ⟨l.toArray⟩ ∧ S.size = l.length) := ⟨hS, hz⟩
  have hSs : S.size ≤ 14208 := by omega
  clear hS hz
  gi_wp2
  gi_loopw [3] (fun p wr => ∃ k : Nat, k ≤ cntL l ∧ p = .int .i64 ((111 * k : Nat) : Int) ∧ J (List.range k) wr ∧ Boxed wr Bn 9 (strV l)) (fun p _ => l.length + 111 - (intOf p).toNat)
  case atStart => exact ⟨0, by omega, rfl, h0, hbW⟩
  case round =>
    obtain ⟨k, hk, rfl, hJs, hb⟩ := hrel
    have hbox := hb
    unfold strV at hb
    rw [← HS.out.1] at hb
    have hc := hb.cell
    have hk2 : k ≤ 128 := by unfold cntL at hk; omega
    obtain ⟨m, hm⟩ : ∃ m, m = 111 * k := ⟨_, rfl⟩
    rw [← hm]
    have HM : Hid (m = 111 * k) := hm
    have hm2 : m ≤ 14208 := by omega
    clear hm
    by_cases hlt : m < S.size
    · have hkc : k < cntL l := by unfold cntL; have := HM.out; have := HS.out.2; omega
      obtain ⟨fn, tmps, assign, body, hy, hR⟩ := hY (List.range k) k wr hJs (by rw [List.length_range]; omega)
      have hen : encP l k = #[.string ⟨(pieceL l k).toArray⟩] := rfl
      rw [hen] at hy
      have e1 : IntKind.i64.wrap ((m : Int) + 111) = (m : Int) + 111 := by rw [IntKind.wrap_i64]; omega
      have k1 : ∀ W, (Instr.slice 9 (.string S) (some (.int .i64 (m : Int))) (some (.int .i64 (min ((m : Int) + 111) (S.size : Int)))) none).run Try.prog W = .ok (.string ⟨(pieceL l k).toArray⟩) W := by
        intro W
        rw [slice_lh W S Try.underlying9 _ _ (by omega) (by omega) (by omega), ← extract_piece l k]
        rw [show ((m : Int)).toNat = 111 * k by have := HM.out; omega, show (min ((m : Int) + 111) (S.size : Int)).toNat = min (111 * k + 111) l.length by have := HM.out; have := HS.out.2; omega]
        rw [HS.out.1]
      gi_wp2
      refine ⟨fun h => by simp [Fence.wide] at h, ?_⟩
      refine hR.mono ?_
      rintro e W3 (⟨rfl, hJ3, hk3⟩ | ⟨rfl, hJx3⟩)
      · have hb3 := hk3.2 _ hbox
        gi_wp2
        refine ⟨⟨k + 1, by omega, ?_, ?_, hb3⟩, ?_⟩
        · have := HM.out
          rw [show 111 * (k + 1) = m + 111 by omega]
          go_num
        · rw [List.range_succ]; exact hJ3
        · have := HM.out
          have := HS.out.2
          simp [intOf]
          omega
      · gi_wp2
        (try simp only [Exit.inBlock, Exit.then])
        refine bodyPost_ret (results_none rfl _ _ _) rfl ?_
        exact ⟨⟨_, rfl⟩, .inr ⟨_, trivial, hJx3⟩⟩
    · have hke : k = cntL l := by unfold cntL at hk ⊢; have := HM.out; have := HS.out.2; omega
      have HK : Hid (k = cntL l) := hke
      clear hke
      gi_wp2
      (try simp only [Exit.inBlock, Exit.then])
      refine bodyPost_end (results_none rfl _ _ _) rfl ?_
      exact ⟨⟨_, rfl⟩, .inl ⟨_, by rw [HK.out], hJs⟩⟩
theorem pieces_any (s : ByteArray) (w : World) :
    Calls Try.prog 48 #[.string s] w fun e w' => e = .returned (.func (.func 81) #[] #[.pointer (some ⟨w.heap.size, 0, none⟩)]) ∧ w' = w.alloc (.cells #[.string s] 9) := by
  go_enter Try.func48, Try.ntmps48
  go_wp2
  go_ret
  exact ⟨rfl, rfl⟩
/-- what Split answers -/
def splitR (t : Nat) (l : List UInt8) : List (List UInt8) × Int := if t = 0 ∨ 4611686018427387904 < t then ([], 1) else if l.length ≤ 14208 then (splitL t l, 0) else ([], 11)
def RowsIs (r : List (List UInt8) × Int) (w : World) (e : Ending) (w' : World) : Prop :=
  ∃ v, e = .returned (.tuple #[v, .int .i64 r.2]) ∧ w'.ownsRow w.heap.size 9 1 v r.1.length (r.1.map strV) ∧ Below w.heap.size w w'
/-- between two rounds -/
def GathP (l : List UInt8) (t n₀ m b0 b1 : Nat) (w : World) (pre : List Nat) (W : World) : Prop :=
  (∃ v, Boxed W b1 25 v ∧ W.ownsRow m 9 1 v pre.length ((pagesL l t pre).map strV) ∧ True) ∧ Boxed W b0 34 (.int .u64 ((t + pre.length : Nat) : Int)) ∧ Below n₀ w W ∧ m ≤ W.heap.size
theorem gathP_own (l : List UInt8) (t n₀ m b0 b1 B : Nat) (w : World) (hn : n₀ ≤ w.heap.size) (hB : n₀ ≤ B) : OwnFrom B (GathP l t n₀ m b0 b1 w) :=
  OwnFrom.and (Own.from (holdsRow_own m b1 25 9 1 (fun pre : List Nat => pre.length) (fun pre => (pagesL l t pre).map strV) (fun _ _ => True)) B)
    (OwnFrom.and (Own.from (boxed_own b0 34 (fun pre : List Nat => .int .u64 ((t + pre.length : Nat) : Int))) B) (OwnFrom.and (ownFrom_below hn hB) (fun _ _ _ _ hs hg _ => Nat.le_trans hs hg.size)))
theorem info_str : (Try.prog.info? 9).map (fun i => (i.zero, i.size, i.bytes)) = some (some (.string ⟨#[]⟩), 1, 16) := by kernel_rfl
theorem own_keep {w w' : World} {B e size n : Nat} {v : Value} {xs : List Value} (h : w.ownsRow B e size v n xs) (hb : Below w.heap.size w w') : w'.ownsRow B e size v n xs := by
  refine h.kept (grown_of hb) ?_
  rcases h.2 with ⟨rfl, _⟩ | ⟨g, cap, cur, rfl, _⟩
  · exact .inl rfl
  · exact .inr (fun e => by simp [Value.ownBlock] at e)
theorem row_ne {W : World} {m e size k : Nat} {v : Value} {xs : List Value} (h : W.ownsRow m e size v k xs) {b : Nat} (hb : b < m) : some b ≠ v.ownBlock := by
  rcases h.2 with ⟨rfl, _⟩ | ⟨g, cap, cur, rfl, hg, _⟩
  · simp [Value.ownBlock]
  · intro e
    obtain rfl : b = g := by simpa [Value.ownBlock] using e
    omega
theorem own_down {W : World} {m n e size k : Nat} {v : Value} {xs : List Value} (h : W.ownsRow m e size v k xs) (hb : n ≤ m) : W.ownsRow n e size v k xs := by
  refine ⟨h.1, ?_⟩
  rcases h.2 with h | ⟨g, cap, cur, e1, hg, rest⟩
  · exact .inl h
  · exact .inr ⟨g, cap, cur, e1, Nat.le_trans hb hg, rest⟩
theorem append_str {W : World} {n₀ k : Nat} {v : Value} {xs : List Value} (p : List UInt8) (hown : W.ownsRow n₀ 9 1 v k xs) (hk : k ≤ 1000000) (hn : n₀ ≤ W.heap.size) :
    ∃ g cap w3, (∀ ty, (Builtin.append_ #[25, 25] ty #[v, .slice (some ⟨W.heap.size, 0, none⟩) 1 1]).run Try.prog (W.alloc (.cells #[.string ⟨p.toArray⟩] 9)) = .ok (.slice (some ⟨g, 0, none⟩) (k + 1) cap) w3) ∧
      w3.ownsRow n₀ 9 1 (.slice (some ⟨g, 0, none⟩) (k + 1) cap) (k + 1) (xs ++ [strV p]) ∧ (W.alloc (.cells #[.string ⟨p.toArray⟩] 9)).grownBy w3 v.ownBlock := by
  obtain ⟨i0, hi, hz0, hz1, hz2⟩ := info_parts info_str
  have h := fun ty => run_append_own (P := Try.prog) (W.alloc (.cells #[.string ⟨p.toArray⟩] 9)) n₀ 25 ty 9 i0 (.string ⟨#[]⟩) 1 16 Try.underlying25 hi hz0 hz1 hz2 rfl (by decide) v k xs (hown.alloc _) ⟨W.heap.size, 0, none⟩ 1 1 [.string ⟨p.toArray⟩] rfl
    (by intro j u hj; match j, hj with | 0, hj => simp at hj; subst hj; simp [Addr.add]) (by intro u hu; simp at hu; subst hu; rfl) (by unfold maxLen; omega) (by omega) (by simp; omega)
  obtain ⟨v', w3, hrun, h1, h2, h3⟩ := h 0
  obtain ⟨g, cap, rfl⟩ := ownsRow_succ h1
  exact ⟨g, cap, w3, fun ty => hrun, h1, h2⟩
theorem ko_row {W W' : World} {m e size k : Nat} {v : Value} {xs : List Value} (hr : W.ownsRow m e size v k xs) (hg : W.grownBy W' v.ownBlock) : KeepsOthers W W' :=
  KeepsOthers.of_grownBy hg fun j o ej hj => by
    rcases hr.2 with ⟨rfl, _⟩ | ⟨g, cap, cur, rfl, _, hgb, _⟩
    · simp [Value.ownBlock] at ej
    · obtain rfl : g = j := by simpa [Value.ownBlock] using ej
      rw [hgb] at hj; cases hj; rfl
theorem own_set {W : World} {m e size k : Nat} {v : Value} {xs : List Value} (hr : W.ownsRow m e size v k xs) {b : Nat} (hb : b < m) (u : Value) : (W.setCell ⟨b, 0, none⟩ u).ownsRow m e size v k xs :=
  hr.kept (grownBy_setCell' W b u) (.inr (row_ne hr hb).symm)
theorem boxed_set {W : World} {b c : Nat} {t : TypeId} {v : Value} (h : Boxed W c t v) (hne : c ≠ b) (u : Value) : Boxed (W.setCell ⟨b, 0, none⟩ u) c t v :=
  h.kept (grownBy_setCell' W b u) (fun e => hne (by cases e; rfl))
theorem below_row {n : Nat} {w W W' : World} {m e size k : Nat} {v : Value} {xs : List Value} (h : Below n w W) (hn : n ≤ W.heap.size) (hnm : n ≤ m) (hr : W.ownsRow m e size v k xs) (hg : W.grownBy W' v.ownBlock) : Below n w W' :=
  h.grown hg hn (fun j ej => by
    rcases hr.2 with ⟨rfl, _⟩ | ⟨g, cap, cur, rfl, hb, _⟩
    · simp [Value.ownBlock] at ej
    · obtain rfl : g = j := by simpa [Value.ownBlock] using ej
      omega)
set_option maxHeartbeats 2000000 in
set_option maxRecDepth 20000 in
theorem split_ok (t : Nat) (l : List UInt8) (w : World) (h0 : 1 ≤ t) (h1 : t ≤ 4611686018427387904) (hl : l.length ≤ 14208) :
    Calls Try.prog 20 #[.int .u64 (t : Int), .string ⟨l.toArray⟩] w (RowsIs (splitL t l, 0) w) := by
  have hti0 : ¬ ((t : Int) = 0) := by omega
  have hti1 : (t : Int) ≤ 4611686018427387904 := by omega
  have hd0 : ((t : Int) == 0) = false := by rw [beq_eq_false_iff_ne]; omega
  have hd1 : decide (4611686018427387904 < (t : Int)) = false := by rw [decide_eq_false_iff_not]; omega
  have hz : (⟨l.toArray⟩ : ByteArray).size = l.length := size_list l
  obtain ⟨S, hS⟩ : ∃ S : ByteArray, S = ⟨l.toArray⟩ := ⟨_, rfl⟩
  rw [← hS] at hz ⊢
  have HS : Hid (S = ⟨l.toArray⟩ ∧ S.size = l.length) := ⟨hS, hz⟩
  have hSs : S.size ≤ 14208 := by omega
  have hd2 : decide (14208 < (S.size : Int)) = false := by rw [decide_eq_false_iff_not]; omega
  clear hS hz
  refine (callsIn_wide (n := 5)).1 ?_
  refine callsIn_of_wp_marks Try.func20 rfl trivial ?_ rfl
  simp only [Try.ntmps20, List.size_toArray, List.length_cons, List.length_nil, Nat.reduceAdd, Nat.reduceSub, Array.replicate_succ, Array.replicate_zero, List.push_toArray, List.append_toArray, List.nil_append, List.cons_append]
  gi_wp2_with fail
  refine ⟨trivial, ?_⟩
  gi_at_call 48; refine (callsIn_wide.2 (pieces_any _ _)).mono ?_; rintro e w1 ⟨rfl, rfl⟩
  gi_wp2_with fail
  obtain ⟨W0, hW0⟩ : ∃ W0, ((w.alloc (.cells #[.int .u64 (t : Int)] 34)).alloc (.cells #[.slice none 0 0] 25)).alloc (.cells #[.string S] 9) = W0 := ⟨_, rfl⟩
  have hs0 : W0.heap.size = w.heap.size + 1 + 1 + 1 := by rw [← hW0]; simp
  have g0 : GathP l t w.heap.size (w.heap.size + 1 + 1 + 1) w.heap.size (w.heap.size + 1) w [] W0 := by
    rw [← hW0]
    refine ⟨⟨.slice none 0 0, ?_, World.ownsRow_nil _ _ _ _, trivial⟩, ((Boxed.new w _ _).alloc _).alloc _, (((Below.refl _ w).alloc (Nat.le_refl _) _).alloc (by simp) _).alloc (by simp; omega) _, by simp⟩
    have := (Boxed.new (w.alloc (.cells #[.int .u64 (t : Int)] 34)) 25 (.slice none 0 0)).alloc (.cells #[.string S] 9)
    rw [World.size_alloc] at this
    exact this
  have hbn : Boxed W0 (w.heap.size + 1 + 1) 9 (strV l) := by
    have := Boxed.new ((w.alloc (.cells #[.int .u64 (t : Int)] 34)).alloc (.cells #[.slice none 0 0] 25)) 9 (.string S)
    rw [World.size_alloc, World.size_alloc, hW0] at this
    unfold strV
    rw [← HS.out.1]
    exact this
  rw [hW0]
  clear hW0
  refine wpIn_rangeFunc_ownH (α := Nat) rfl (by omega) (gf := 81) (lb := #[.pointer (some ⟨w.heap.size + 1 + 1, 0, none⟩)]) rfl trivial (enters_of Try.func81 (by kernel_rfl) rfl)
    (pieces1_stops l hl (5 - 1) (w.heap.size + 1 + 1) W0 hbn) (fun h k => h.trans k) (fun W l o o' _ h hc _ => Kb.put W l o o' h hc) (Below.refl _ _) (fun _ => rfl)
    (GathP l t w.heap.size (w.heap.size + 1 + 1 + 1) w.heap.size (w.heap.size + 1) w)
    (fun _ _ _ => False)
    (gathP_own l t _ _ _ _ _ w (Nat.le_refl _) (by omega))
    (fun c s A B row hs hg hr => hs)
    g0
    (fun x a' W => a' = { tmps := #[.int .u64 (t : Int), .string S, .pointer (some ⟨w.heap.size, 0, none⟩), undef, .slice none 0 0, .int .i64 0, .pointer (some ⟨w.heap.size + 1, 0, none⟩), strV (pieceL l x), .int .u64 (t : Int), .bool false, .bool false, .int .u64 (t : Int), .bool false, .bool false, .string S, .int .i64 (S.size : Int), .bool false, .string S, .func (.func 81) #[] #[.pointer (some ⟨w.heap.size + 1 + 1, 0, none⟩)], strV (pieceL l x), undef, undef, undef, undef, undef, undef, undef, undef, undef], defers := [] })
    (fun x a' s A B row hs hg hr => hs)
    ?assign ?body ?done ?stop
  case assign =>
    rintro lp pre x W K hG hK
    have hA := hK _ _ (KeepsFrom.refl _ _) (Kb.below (Below.refl _ W)) hG rfl
    unfold encP
    gi_wp2
    exact hA
  case body =>
    rintro lp pre x a' W hlp ⟨rr, hrr⟩ hG rfl hlt
    have HG : Hid (GathP l t w.heap.size (w.heap.size + 1 + 1 + 1) w.heap.size (w.heap.size + 1) w pre W) := hG
    obtain ⟨⟨v, hv, hown, _⟩, htag, hB, hm3⟩ := hG
    have hcnt : cntL l ≤ 128 := by unfold cntL; omega
    have hpl : pre.length ≤ 128 := by omega
    have hc0 := hv.cell
    have hf0 := hv.frozen
    have hc1 := htag.cell
    have hf1 := htag.frozen
    have cp := fun w => laid_any (t + pre.length) (pieceL l x) w (by omega) (pieceL_len l x)
    obtain ⟨P, hP⟩ : ∃ P, P = pageL (t + pre.length) (pieceL l x) := ⟨_, rfl⟩
    obtain ⟨T, hT⟩ : ∃ T, T = t + pre.length := ⟨_, rfl⟩
    have HP : Hid (P = pageL (t + pre.length) (pieceL l x) ∧ T = t + pre.length) := ⟨hP, hT⟩
    have hTl : T ≤ 4611686018427388100 := by omega
    rw [← hP, ← hT] at cp
    rw [← hT] at hc1 htag
    unfold strV
    clear hP hT
    have mixed : Try.prog.follows .mixedOrders = true := by kernel_rfl
    have hk : pre.length ≤ 1000000 := by omega
    gi_wp2_with fail
    gi_region_with_o (
      refine ⟨trivial, ?_⟩
      gi_at_call 49
      refine (CallsIn.inRound lp (callsIn_wide.2 (cp _))).mono ?_
      rintro e w2 ⟨rfl, hb2⟩
      have hbW : Below W.heap.size W w2 := below2 (by (repeat' (first | exact Below.refl _ _ | refine Below.drew ?_))) hb2
      have qc0 := (bcell hbW).1 (w.heap.size + 1) 0 hv.lt
      have qc1 := (bcell hbW).1 w.heap.size 0 htag.lt
      have hv2 : Boxed w2 (w.heap.size + 1) 25 v := (hbW.block _ hv.lt).trans hv
      have hr2 : Boxed w2 w.heap.size 34 (.int .u64 (T : Int)) := (hbW.block _ htag.lt).trans htag
      have hown2 := own_keep hown hbW
      obtain ⟨g, cap, w3, hrun, hown3, hgrow⟩ := append_str P hown2 hk (Nat.le_trans hm3 hbW.size)
      have hv3 := hv2.cell
      have hf3 := hv2.frozen
      have hv4 : Boxed w3 (w.heap.size + 1) 25 v := (hv2.alloc _).kept hgrow (row_ne hown2 (by omega))
      have hv5 := hv4.cell
      have hf5 := hv4.frozen
      have hv6 := (hv2.alloc (.cells #[.string ⟨P.toArray⟩] 9)).cell)
    all_goals have hk1 : Kb (w.heap.size + 1 + 1) w2 w3 := (Kb.below ((Below.refl _ w2).alloc (Nat.le_refl _) _)).trans (Kb.grown hgrow (row_ne hown2 (by omega)))
    all_goals have hr3 : Boxed w3 w.heap.size 34 (.int .u64 (T : Int)) := (hr2.alloc _).kept hgrow (row_ne hown2 (by omega))
    all_goals have hr4 := boxed_set hr3 (b := w.heap.size + 1) (by omega) (.slice (some ⟨g, 0, none⟩) (pre.length + 1) cap)
    all_goals have hc4 := hr4.cell
    all_goals have hf4 := hr4.frozen
    all_goals gi_wp2
    all_goals refine ⟨?_, ?_, ?_⟩
    all_goals first
      | exact ((((KeepsOthers.of_grownBy (grown_of hbW) (fun _ _ e => by cases e)).trans (KeepsOthers.alloc _ _)).trans (ko_row (hown2.alloc _) hgrow)).trans ((KeepsOthers.setCell _ _ _).trans (KeepsOthers.setCell _ _ _))).from _
      | exact ((Kb.below hbW).trans hk1).trans ((Kb.set _ _ _ (by omega)).trans (Kb.set _ _ _ (by omega)))
      | skip
    all_goals refine ⟨⟨_, boxed_set (hv4.set _) (by omega) _, ?_, trivial⟩, ?_, ?_, ?_⟩
    all_goals first
      | (rw [List.length_append, pagesL_snoc, List.map_append]; have := own_set (own_set hown3 (b := w.heap.size + 1) (by omega) (.slice (some ⟨g, 0, none⟩) (pre.length + 1) cap)) (b := w.heap.size) (by omega) (.int .u64 ((T : Int) + 1)); simp only [List.map_cons, List.map_nil]; rw [← HP.out.1]; exact this)
      | (have := hr4.set (.int .u64 ((T : Int) + 1)); rw [List.length_append, List.length_singleton, show ((t + (pre.length + 1) : Nat) : Int) = (T : Int) + 1 by have := HP.out.2; omega]; exact this)
      | exact ((below_row ((hB.trans (hbW.mono hB.size)).alloc (Nat.le_trans hB.size hbW.size) _) (by have := hbW.size; have := hB.size; simp; omega) (by omega) (hown2.alloc _) hgrow).setCell (p := ⟨w.heap.size + 1, 0, none⟩) (by simp) _).setCell (p := ⟨w.heap.size, 0, none⟩) (Nat.le_refl _) _
      | (have h1 := hk1.1; have h2 := hbW.size; simp; omega)
      | skip
  case done =>
    rintro D xs W hD rfl ⟨⟨v, hv, hown, _⟩, _, hB, hm3⟩ hK
    have hc0 := hv.cell
    have mixed : Try.prog.follows .mixedOrders = true := by kernel_rfl
    gi_wp2
    refine ⟨by simp, .inl ⟨_, _, rfl, run_takeDeferred (w := W) hK, ?_⟩⟩
    refine ⟨_, results_tmp2 rfl _ _ _, ?_⟩
    refine ⟨v, rfl, ?_, ?_⟩
    · unfold splitL
      rw [pagesL_len]
      exact own_down (ownsRow_putObj hown _ hK rfl) (by omega)
    · exact hB.trans (belowK_b (w := w) (Nat.le_refl _) W D _ _ (by omega) hK rfl rfl)
  case stop =>
    rintro D c pre W hD _ hF hK
    exact hF.elim
theorem split_any (t : Nat) (l : List UInt8) (w : World) (ht : t < 18446744073709551616) (hl : l.length ≤ 9223372036854775807) :
    Calls Try.prog 20 #[.int .u64 (t : Int), .string ⟨l.toArray⟩] w (RowsIs (splitR t l) w) := by
  have hz : (⟨l.toArray⟩ : ByteArray).size = l.length := size_list l
  by_cases h : t = 0 ∨ 4611686018427387904 < t
  · rw [splitR, if_pos h]
    rcases h with h | h
    · subst h
      go_enter Try.func20, Try.ntmps20
      go_wp2
      go_ret2
      exact ⟨_, rfl, World.ownsRow_nil _ _ _ _, (Below.refl _ _).alloc (Nat.le_refl _) _⟩
    · have hd0 : ((t : Int) == 0) = false := by rw [beq_eq_false_iff_ne]; omega
      have hd1 : decide (4611686018427387904 < (t : Int)) = true := by rw [decide_eq_true_iff]; omega
      go_enter Try.func20, Try.ntmps20
      go_wp2
      go_ret2
      exact ⟨_, rfl, World.ownsRow_nil _ _ _ _, (Below.refl _ _).alloc (Nat.le_refl _) _⟩
  · rw [splitR, if_neg h]
    by_cases hlen : l.length ≤ 14208
    · rw [if_pos hlen]
      exact split_ok t l w (by omega) (by omega) hlen
    · rw [if_neg hlen]
      have hd0 : ((t : Int) == 0) = false := by rw [beq_eq_false_iff_ne]; omega
      have hd1 : decide (4611686018427387904 < (t : Int)) = false := by rw [decide_eq_false_iff_not]; omega
      obtain ⟨S, hS⟩ : ∃ S : ByteArray, S = ⟨l.toArray⟩ := ⟨_, rfl⟩
      rw [← hS] at hz ⊢
      have hSs : S.size ≤ 9223372036854775807 := by omega
      have hd2 : decide (14208 < (S.size : Int)) = true := by rw [decide_eq_true_iff]; omega
      clear hS hz
      go_enter Try.func20, Try.ntmps20
      go_wp2
      go_ret2
      exact ⟨_, rfl, World.ownsRow_nil _ _ _ _, (Below.refl _ _).alloc (Nat.le_refl _) _⟩
end Go.Proofs.Ytajcmgccclemdab.Page
