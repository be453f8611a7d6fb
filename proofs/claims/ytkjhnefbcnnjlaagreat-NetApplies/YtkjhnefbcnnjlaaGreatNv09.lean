/- Where a router is in a net. -/
import Derived.Test.YtkjhnefbcnnjlaaGreatNv08
import Derived.Test.YtkjhnefbcnnjlaaGreatNv07
import Derived.Test.YtkjhnefbcnnjlaaGreatNv04
import Derived.Lib.BufferWrite
import Derived.Test.YtkjhnefbcnnjlaaGreatNv01
import Derived.Test.YtkjhnefbcnnjlaaGreatNv05
import Derived.Laws.IdiomStrings
import Derived.OneCell
import Derived.Shelf.Abstract
import Derived.ChangeAlike
set_option linter.unusedVariables false
namespace Go.Proofs.YtkjhnefbcnnjlaaGreat.Fib
open Go.RowKit
open Go.Proofs.YtkjhnefbcnnjlaaGreat.Addr (RowAt below2 below_new RowAt.below RowAt.drew RowAt.new RowAt.alloc RowAt.set1 RowAt.far1 cells4 gset grefl bset results_cell)
open Go.Proofs.YtkjhnefbcnnjlaaGreat.Lk (Lk HasLks HasLks.keep hasRow_own)
open Go.Proofs.YtkjhnefbcnnjlaaGreat.Tr (HasRts HasRts.keep)
theorem set4_row {W : World} {B : Nat} {c0 c1 c2 c3 : Value} {t : TypeId} (h : RowAt W B [c0, c1, c2, c3] t) (x y z u : Value) : RowAt ((((W.setCell ⟨B, 0, none⟩ x).setCell ⟨B, 1, none⟩ y).setCell ⟨B, 2, none⟩ z).setCell ⟨B, 3, none⟩ u) B [x, y, z, u] t := (((h.set1 0 x).set1 1 y).set1 2 z).set1 3 u
theorem set4_gr (W : World) (B : Nat) (x y z u : Value) : W.grownBy ((((W.setCell ⟨B, 0, none⟩ x).setCell ⟨B, 1, none⟩ y).setCell ⟨B, 2, none⟩ z).setCell ⟨B, 3, none⟩ u) (some B) := gset (gset (gset (gset (grefl _ _))))
theorem set4_bl {b0 B : Nat} {w0 W : World} (h : Below b0 w0 W) (hb : b0 ≤ B) (x y z u : Value) : Below b0 w0 ((((W.setCell ⟨B, 0, none⟩ x).setCell ⟨B, 1, none⟩ y).setCell ⟨B, 2, none⟩ z).setCell ⟨B, 3, none⟩ u) := bset (bset (bset (bset h hb) hb) hb) hb
set_option maxHeartbeats 2000000 in
theorem fresh_any (R : Ro) (a b : Value) (w : World) (ha : HasRts w a R.rts) (hb : HasLks w b R.lks) (h1 : R.rts.length ≤ 1000) (h2 : R.lks.length ≤ 1000) :
    Calls Tryz.prog 30 #[.agg #[.int .i64 R.id, .bool R.up, a, b]] w fun e w' => ∃ c d, e = .returned (.agg #[.int .i64 R.id, .bool R.up, c, d]) ∧ HasRts w' c R.rts ∧ HasLks w' d R.lks ∧ Below w.heap.size w w' := by
  have C1 : Hid (∀ W, HasRts W a R.rts → Calls Tryz.prog 52 #[a] W fun e w' => ∃ o n m, e = .returned (.slice o n m) ∧ HasRts w' (.slice o n m) R.rts ∧ Below W.heap.size W w') := by
    intro W hW
    refine (Tr.clone_any R.rts a W hW (by omega)).mono ?_
    rintro e w' ⟨u, rfl, ho, hb'⟩
    have hh : HasRts w' u R.rts := hasRow_own ho
    obtain ⟨o, c, rfl, _⟩ := Lk.HasRow.slice hh
    exact ⟨_, _, _, rfl, hh, hb'⟩
  have C2 : Hid (∀ W, HasLks W b R.lks → Calls Tryz.prog 53 #[b] W fun e w' => ∃ o n m, e = .returned (.slice o n m) ∧ HasLks w' (.slice o n m) R.lks ∧ Below W.heap.size W w') := by
    intro W hW
    refine (Lk.clone_any R.lks b W hW (by omega)).mono ?_
    rintro e w' ⟨u, rfl, ho, hb'⟩
    have hh : HasLks w' u R.lks := hasRow_own ho
    obtain ⟨o, c, rfl, _⟩ := Lk.HasRow.slice hh
    exact ⟨_, _, _, rfl, hh, hb'⟩
  obtain ⟨o1, n1, m1, rfl⟩ : ∃ o n m, a = .slice o n m := by obtain ⟨o, c, rfl, _⟩ := Lk.HasRow.slice ha; exact ⟨_, _, _, rfl⟩
  obtain ⟨o2, n2, m2, rfl⟩ : ∃ o n m, b = .slice o n m := by obtain ⟨o, c, rfl, _⟩ := Lk.HasRow.slice hb; exact ⟨_, _, _, rfl⟩
  obtain ⟨X, hX⟩ : ∃ X, X = (w.alloc (.cells #[.int .i64 R.id, .bool R.up, .slice o1 n1 m1, .slice o2 n2 m2] 51)).alloc (.cells #[.int .i64 0, .bool false, .slice none 0 0, .slice none 0 0] 51) := ⟨_, rfl⟩
  have hB : Below w.heap.size w X := by rw [hX]; exact below_new (below_new (Below.refl _ _) _) _
  have r0 : RowAt X w.heap.size [.int .i64 R.id, .bool R.up, .slice o1 n1 m1, .slice o2 n2 m2] 51 := by rw [hX]; exact (RowAt.new _ _ _).alloc _
  have r1 : RowAt X (w.heap.size + 1) [.int .i64 0, .bool false, .slice none 0 0, .slice none 0 0] 51 := by rw [hX, ← World.size_alloc w (.cells #[.int .i64 R.id, .bool R.up, .slice o1 n1 m1, .slice o2 n2 m2] 51)]; exact RowAt.new _ _ _
  have HA : Hid (HasRts X (.slice o1 n1 m1) R.rts ∧ HasLks X (.slice o2 n2 m2) R.lks) := ⟨ha.keep hB, hb.keep hB⟩
  clear ha hb h1 h2
  go_enter Tryz.func30, Tryz.ntmps30
  go_upto_region 1 with fail
  rw [← hX]
  clear hX
  obtain ⟨p0, p1, p2, p3, pf⟩ := cells4 r0
  go_region_with (first
    | (go_at_call 52
       refine (C1.out _ (HA.out.1.keep (Below.refl _ _).drew)).mono ?_
       rintro e w1 ⟨o3, n3, m3, rfl, hh1, hb1'⟩
       have hb1 : Below X.heap.size X w1 := below2 (Below.refl _ _).drew hb1'
       obtain ⟨p0, p1, p2, p3, pf⟩ := cells4 (RowAt.below r0 hb1))
    | (go_at_call 53
       refine (C2.out _ (HA.out.2.keep hb1)).mono ?_
       rintro e w2 ⟨o4, n4, m4, rfl, hh2, hb2⟩
       have hb3 : Below X.heap.size X w2 := below2 hb1 hb2
       obtain ⟨p0, p1, p2, p3, pf⟩ := cells4 (RowAt.below r0 hb3)))
  all_goals
    have R2 := RowAt.below r0 hb3
    have R1 := RowAt.below r1 hb3
    have hh3 := hh1.keep hb2
    obtain ⟨Y, hY⟩ : ∃ Y, Y = (w2.setCell ⟨w.heap.size, 2, none⟩ (.slice o3 n3 m3)).setCell ⟨w.heap.size, 3, none⟩ (.slice o4 n4 m4) := ⟨_, rfl⟩
    have g2 : w2.grownBy Y (some w.heap.size) := by rw [hY]; exact gset (gset (grefl _ _))
    have HR : Hid (HasRts Y (.slice o3 n3 m3) R.rts ∧ HasLks Y (.slice o4 n4 m4) R.lks) := ⟨rts_apart hh3 R2 g2, lks_apart hh2 R2 g2⟩
    have y0 : RowAt Y w.heap.size [.int .i64 R.id, .bool R.up, .slice o3 n3 m3, .slice o4 n4 m4] 51 := by rw [hY]; exact (R2.set1 2 _).set1 3 _
    have y1 : RowAt Y (w.heap.size + 1) [.int .i64 0, .bool false, .slice none 0 0, .slice none 0 0] 51 := by rw [hY]; exact (R1.far1 (by omega) _ _).far1 (by omega) _ _
    have hBY : Below w.heap.size w Y := by rw [hY]; exact bset (bset (below2 hB hb3) (Nat.le_refl _)) (Nat.le_refl _)
    rw [← hY]
    clear hY hh1 hh2 hh3 R2 R1 hb1 hb2 hb3 C1 C2 HA r0 r1 g2 p0 p1 p2 p3 pf hB
    obtain ⟨p0, p1, p2, p3, pf⟩ := cells4 y0
    obtain ⟨q0, q1, q2, q3, qf⟩ := cells4 y1
    go_wp2_with fail
    (try simp only [Exit.inBlock, Exit.then])
    refine bodyPost_ret (v := .agg #[.int .i64 R.id, .bool R.up, .slice o3 n3 m3, .slice o4 n4 m4]) ?_ rfl ⟨_, _, rfl, ?_, ?_, ?_⟩
    · rw [results_cell rfl]
      go_simp
    · exact rts_apart HR.out.1 y1 (set4_gr _ _ _ _ _ _)
    · exact lks_apart HR.out.2 y1 (set4_gr _ _ _ _ _ _)
    · exact set4_bl hBY (by omega) _ _ _ _
end Go.Proofs.YtkjhnefbcnnjlaaGreat.Fib
namespace Go.Proofs.YtkjhnefbcnnjlaaGreat.Msg
open Go.RowKit
open Go.Proofs.YtkjhnefbcnnjlaaGreat.Addr (RowAt RowAt.cell)

theorem addr_add (b o j : Nat) : (⟨b, o, none⟩ : Go.Addr).add j = ⟨b, o + j, none⟩ := by unfold Addr.add; split <;> simp_all
/-- a byte's cell -/
def cB (b : UInt8) : Value := .int .u8 (b.toNat : Int)
def cL (l : List UInt8) : List Value := l.map cB
theorem RowAt.set {W : World} {g : Nat} {cs : List Value} {t : TypeId} (h : RowAt W g cs t) (ds : List Value) : RowAt (W.setRow g ds.toArray) g ds t := setRow_heap W g cs.toArray ds.toArray t (0, 0) h
end Go.Proofs.YtkjhnefbcnnjlaaGreat.Msg
namespace Go.Proofs.YtkjhnefbcnnjlaaGreat.Msg
open Go.RowKit
open Go.Proofs.YtkjhnefbcnnjlaaGreat.Addr (RowAt RowAt.lt gset grefl)
theorem gkeep {W W' : World} {g k : Nat} {cs : List Value} {t : TypeId} (h : RowAt W k cs t) (hg : W.grownBy W' (some g)) (hne : k ≠ g) : RowAt W' k cs t := (hg.block k (RowAt.lt h) (by intro e; injection e with e; exact hne e)).trans h
theorem gsetO (W : World) (b k : Nat) (v : Value) : W.grownBy (W.setCell ⟨b, k, none⟩ v) (some b) := gset (grefl W _)
end Go.Proofs.YtkjhnefbcnnjlaaGreat.Msg
namespace Go.Proofs.YtkjhnefbcnnjlaaGreat.Msg
open Go.RowKit
open Go.Proofs.YtkjhnefbcnnjlaaGreat.Addr (RowAt.cell)

theorem results_cell_tmp1 {fn : Func} {p u : Tmp} {ty : TypeId} (h : fn.results = #[.cell p ty, .tmp u]) (tmps : Array Value) (P : Program) (w : World) :
    (results fn tmps).run P w = ((asAddr (tmps.getD p undef)).run P w).andThen fun a w₁ => ((loadVar ty a).run P w₁).andThen fun v w₂ => .ok (.tuple #[v, tmps.getD u undef]) w₂ := by
  simp only [results, h]
  simp [Sem.run_bind, Result.andThen]
end Go.Proofs.YtkjhnefbcnnjlaaGreat.Msg
namespace Go.Proofs.YtkjhnefbcnnjlaaGreat.Ord
open Go.RowKit
open Go.Proofs.YtkjhnefbcnnjlaaGreat.Msg (Ev okE)
open Go.Proofs.YtkjhnefbcnnjlaaGreat.Addr (RowAt.cell)

structure St where
  router : Int
  seq : Nat
  time : Int
  up : Bool
def stC (s : St) : List Value := [.int .i64 s.router, .int .u64 (s.seq : Int), .int .i64 s.time, .bool s.up]
def stV (s : St) : Value := .agg (stC s).toArray
structure FitS (s : St) : Prop where
  router : -9223372036854775808 ≤ s.router ∧ s.router ≤ 9223372036854775807
  seq : (s.seq : Int) ≤ 18446744073709551615
  time : -9223372036854775808 ≤ s.time ∧ s.time ≤ 9223372036854775807
def zeroS : St := ⟨0, 0, 0, false⟩
def okS (s : St) : Bool := decide (0 ≤ s.router) && decide (s.router ≤ 1048576) && decide (1 ≤ s.seq) && decide (s.seq ≤ 1099511627776) && decide (0 ≤ s.time) && decide (s.time ≤ 1099511627776)
/-- the seats rise by router behind a bound -/
def rise : Option Int → List St → Bool
  | _, [] => true
  | none, s :: l => okS s && rise (some s.router) l
  | some r, s :: l => okS s && decide (r < s.router) && rise (some s.router) l
def okL (l : List St) : Bool := decide (l.length ≤ 64) && rise none l
def checkL (l : List St) : Int := if okL l then 0 else 2
def findL (l : List St) (r : Int) : Option St := l.find? (fun s => decide (s.router = r))
def seatOf (l : List St) (r : Int) : St := (findL l r).getD zeroS
def isIn (l : List St) (r : Int) : Bool := (findL l r).isSome
def askL (l : List St) (e : Ev) (h : Int) : Int := if okL l && okE e then (if h < -1 ∨ 1099511627776 < h then 1 else 0) else 2
def misL (l : List St) (e : Ev) (h : Int) : Int :=
  if isIn l e.router = false ∧ e.kind ≠ 1 then 14
  else if e.seq ≠ (seatOf l e.router).seq + 1 then 12
  else if e.time < (seatOf l e.router).time ∨ e.time ≤ h then 13
  else if decide (e.kind = 1) = (seatOf l e.router).up then 10
  else if isIn l e.router = false ∧ l.length = 64 then 8
  else 0
def mayL (l : List St) (e : Ev) (h : Int) : Int := if askL l e h = 0 then misL l e h else askL l e h
def ahead (l : List St) (r : Int) : List St := l.filter (fun s => decide (s.router < r))
def behind (l : List St) (r : Int) : List St := l.filter (fun s => decide (r < s.router))
def seatedL (l : List St) (s : St) : List St := ahead l s.router ++ ([s] ++ behind l s.router)
def nextL (l : List St) (e : Ev) (h : Int) : List St × Int :=
  if askL l e h = 0 then (if misL l e h = 0 then (seatedL l ⟨e.router, e.seq, e.time, decide (e.kind ≠ 2)⟩, 0) else (l, misL l e h)) else ([], askL l e h)
/-- a row that lies in memory: n elements of sz cells each -/
def HasRow (W : World) (v : Value) (sz n : Nat) (cs : List Value) : Prop :=
  cs.length = n * sz ∧ ((v = .slice none 0 0 ∧ n = 0) ∨ ∃ a cap, v = .slice (some a) n cap ∧ n ≤ cap ∧ cap ≤ 9223372036854775807 ∧ (0 < n → a.spot = none ∧ a.block < W.heap.size) ∧ ∀ j, j < n * sz → W.cell? (a.add j) = cs[j]?)
theorem addr_add (b o j : Nat) : (⟨b, o, none⟩ : Addr).add j = ⟨b, o + j, none⟩ := by unfold Addr.add; split <;> simp_all
theorem hasRow_nil (W : World) (sz : Nat) : HasRow W (.slice none 0 0) sz 0 [] := ⟨by simp, .inl ⟨rfl, rfl⟩⟩
theorem hasRow_own {W : World} {B e sz n : Nat} {v : Value} {cs : List Value} (h : W.ownsRow B e sz v n cs) : HasRow W v sz n cs := by
  refine ⟨h.1, ?_⟩
  rcases h.2 with h0 | ⟨g, cap, cur, rfl, hg, hgb, hnc, hcm, rest⟩
  · exact .inl h0
  · refine .inr ⟨⟨g, 0, none⟩, cap, rfl, hnc, by unfold maxLen at hcm; exact hcm, fun _ => ⟨rfl, (Array.getElem?_eq_some_iff.1 hgb).1⟩, fun j hj => ?_⟩
    rw [← h.cellAt j hj, addr_add, Nat.zero_add]
theorem HasRow.keep {W W' : World} {v : Value} {sz n : Nat} {cs : List Value} (h : HasRow W v sz n cs) (hb : Below W.heap.size W W') : HasRow W' v sz n cs := by
  refine ⟨h.1, ?_⟩
  rcases h.2 with h0 | ⟨a, cap, e, h1, h2, h3, h4⟩
  · exact .inl h0
  · refine .inr ⟨a, cap, e, h1, h2, fun h => ⟨(h3 h).1, Nat.lt_of_lt_of_le (h3 h).2 hb.size⟩, fun j hj => ?_⟩
    have hn : 0 < n := by rcases Nat.eq_zero_or_pos n with h0 | h0; rw [h0] at hj; omega; exact h0
    obtain ⟨b, i, s⟩ := a
    obtain ⟨hs, hlt⟩ := h3 hn
    simp only at hs hlt
    subst hs
    have h5 := h4 j hj
    rw [addr_add] at h5 ⊢
    rw [← h5]
    exact hb.cell (p := ⟨b, i + j, none⟩) hlt
theorem HasRow.slice {W : World} {v : Value} {sz n : Nat} {cs : List Value} (h : HasRow W v sz n cs) : ∃ o cap, v = .slice o n cap ∧ n ≤ cap ∧ cap ≤ 9223372036854775807 := by
  rcases h.2 with ⟨h0, rfl⟩ | ⟨a, cap, e, h1, h2, h3, h4⟩
  · exact ⟨none, 0, h0, Nat.le_refl _, by omega⟩
  · exact ⟨some a, cap, e, h1, h2⟩
theorem HasRow.at {W : World} {o : Option Addr} {m cap sz n : Nat} {cs : List Value} (h : HasRow W (.slice o m cap) sz n cs) (hn : 0 < n) : m = n ∧ ∃ b i, o = some ⟨b, i, none⟩ ∧ b < W.heap.size ∧ ∀ j, j < n * sz → W.cell? ⟨b, i + j, none⟩ = cs[j]? := by
  rcases h.2 with ⟨h0, h1⟩ | ⟨a, c, e, h1, h2, h3, h4⟩
  · omega
  · injection e with e1 e2 e3
    subst e1
    obtain ⟨b, i, s⟩ := a
    obtain ⟨hs, hlt⟩ := h3 hn
    simp only at hs hlt
    subst hs
    exact ⟨e2, b, i, rfl, hlt, fun j hj => by rw [← h4 j hj, addr_add]⟩
def stCs (l : List St) : List Value := l.flatMap stC
theorem stCs_len (l : List St) : (stCs l).length = l.length * 4 := by
  induction l with
  | nil => rfl
  | cons s l ih =>
    show (stC s ++ stCs l).length = _
    rw [List.length_append, ih, List.length_cons]
    show 4 + _ = _
    omega
theorem stCs_app (a b : List St) : stCs (a ++ b) = stCs a ++ stCs b := by unfold stCs; rw [List.flatMap_append]
theorem one_seats (l : List St) : ∀ x ∈ stCs l, x.oneCell' = true := by
  intro x hx
  obtain ⟨p, _, h⟩ := List.mem_flatMap.1 hx
  simp only [stC, List.mem_cons, List.not_mem_nil, or_false] at h
  rcases h with rfl | rfl | rfl | rfl <;> rfl
/-- rows of seats -/
def HasSts (W : World) (v : Value) (l : List St) : Prop := HasRow W v 4 l.length (stCs l)
theorem HasSts.keep {W W' : World} {v : Value} {l : List St} (h : HasSts W v l) (hb : Below W.heap.size W W') : HasSts W' v l := HasRow.keep h hb
theorem stCs_at (l : List St) : ∀ j (h : j < l.length), (stCs l)[4 * j]? = some (.int .i64 l[j].router) ∧ (stCs l)[4 * j + 1]? = some (.int .u64 (l[j].seq : Int)) ∧ (stCs l)[4 * j + 2]? = some (.int .i64 l[j].time) ∧ (stCs l)[4 * j + 3]? = some (.bool l[j].up) := by
  induction l with
  | nil => intro j h; simp at h
  | cons p ps ih =>
    intro j h
    cases j with
    | zero => exact ⟨rfl, rfl, rfl, rfl⟩
    | succ j =>
      have := ih j (by simpa using h)
      rw [show stCs (p :: ps) = .int .i64 p.router :: .int .u64 (p.seq : Int) :: .int .i64 p.time :: .bool p.up :: stCs ps from rfl, show 4 * (j + 1) = 4 * j + 1 + 1 + 1 + 1 by omega]
      simp only [List.getElem?_cons_succ, List.getElem_cons_succ]
      exact this
theorem HasSts.cell {W : World} {o : Option Addr} {m cap : Nat} {l : List St} (h : HasSts W (.slice o m cap) l) (j : Nat) (hj : j < l.length) : ∃ b i, o = some ⟨b, i, none⟩ ∧ b < W.heap.size ∧ W.cell? ⟨b, i + j * 4, none⟩ = some (.int .i64 l[j].router) ∧ W.cell? ⟨b, i + j * 4 + 1, none⟩ = some (.int .u64 (l[j].seq : Int)) ∧ W.cell? ⟨b, i + j * 4 + 2, none⟩ = some (.int .i64 l[j].time) ∧ W.cell? ⟨b, i + j * 4 + 3, none⟩ = some (.bool l[j].up) := by
  obtain ⟨_, b, i, e, hb, hc⟩ := HasRow.at h (by omega)
  obtain ⟨h0, h1, h2, h3⟩ := stCs_at l j hj
  refine ⟨b, i, e, hb, ?_, ?_, ?_, ?_⟩
  · rw [hc (j * 4) (by omega), Nat.mul_comm]; exact h0
  · rw [Nat.add_assoc, hc (j * 4 + 1) (by omega), Nat.mul_comm]; exact h1
  · rw [Nat.add_assoc, hc (j * 4 + 2) (by omega), Nat.mul_comm]; exact h2
  · rw [Nat.add_assoc, hc (j * 4 + 3) (by omega), Nat.mul_comm]; exact h3
def NewIn (w : World) (v : Value) : Prop := ∀ a n c, v = .slice (some a) n c → w.heap.size ≤ a.block
end Go.Proofs.YtkjhnefbcnnjlaaGreat.Ord
namespace Go.Proofs.YtkjhnefbcnnjlaaGreat.Nt
open Go.RowKit
open Go.Proofs.YtkjhnefbcnnjlaaGreat.Addr (RowAt.cell)
open Go.Proofs.YtkjhnefbcnnjlaaGreat.Msg (Ev)
open Go.Proofs.YtkjhnefbcnnjlaaGreat.Lk (Lk HasLks HasRow HasLks.keep addr_add)
open Go.Proofs.YtkjhnefbcnnjlaaGreat.Tr (HasRts HasRts.keep)
open Go.Proofs.YtkjhnefbcnnjlaaGreat.Fib
open Go.Proofs.YtkjhnefbcnnjlaaGreat.Ord (St nextL okL)
structure NetT where
  seats : List St
  ros : List Ro
def zeroN : NetT := ⟨[], []⟩
def manyR (R : Ro) : Nat := R.rts.length + R.lks.length
def sizeN : List Ro → Nat
  | [] => 0
  | R :: l => manyR R + sizeN l
theorem sizeN_app (a b : List Ro) : sizeN (a ++ b) = sizeN a + sizeN b := by
  induction a with
  | nil => simp [sizeN]
  | cons x a ih => simp only [List.cons_append, sizeN, ih]; omega
/-- each router is right, and has its seat -/
def fitsR (R : Ro) (s : St) : Bool := okRo R && (decide (R.id = s.router) && decide (R.up = s.up))
def eachR : List Ro → List St → Bool
  | [], _ => true
  | _ :: _, [] => false
  | R :: l, s :: t => fitsR R s && eachR l t
def okN (n : NetT) : Bool := okL n.seats && (decide (n.ros.length = n.seats.length) && (eachR n.ros n.seats && decide (sizeN n.ros ≤ 1024)))
def checkN (n : NetT) : Int := if okN n then 0 else 2
/-- where a router is, or would be -/
def posN (l : List Ro) (id : Int) : Nat := l.findIdx (fun R => decide (id ≤ R.id))
def isN (l : List Ro) (id : Int) : Bool := match l[posN l id]? with | some R => decide (R.id = id) | none => false
def wasN (l : List Ro) (id : Int) : Ro := if isN l id then (l[posN l id]?).getD zeroRo else (makeRo id).1
def putN (l : List Ro) (id : Int) (R : Ro) : List Ro := l.take (posN l id) ++ ([R] ++ l.drop (if isN l id then posN l id + 1 else posN l id))
def takeN (n : NetT) (e : Ev) (h : Int) : NetT × Int :=
  if (nextL n.seats e h).2 = 0 then
    (if (applyRo (wasN n.ros e.router) e).2 = 0 then
      (if 1024 < sizeN (putN n.ros e.router (applyRo (wasN n.ros e.router) e).1) then (n, 8)
       else (⟨(nextL n.seats e h).1, putN n.ros e.router (applyRo (wasN n.ros e.router) e).1⟩, 0))
     else (n, (applyRo (wasN n.ros e.router) e).2))
  else (n, (nextL n.seats e h).2)
def applyN (n : NetT) (e : Ev) (h : Int) : NetT × Int :=
  if okN n then (if (takeN n e h).2 = 2 ∨ (takeN n e h).2 = 1 then (zeroN, (takeN n e h).2) else takeN n e h) else (zeroN, 2)
def allF (h : Int) : NetT → List Ev → Nat → NetT × Nat × Int
  | n, [], k => (n, k, 0)
  | n, e :: t, k => if (takeN n e h).2 = 0 then allF h (takeN n e h).1 t (k + 1) else (n, k, (takeN n e h).2)
def allN (n : NetT) (l : List Ev) (h : Int) : NetT × Nat × Int := if okN n then allF h n l 0 else (zeroN, 0, 2)
def findN (n : NetT) (id : Int) : Ro × Int := if okN n then (if isN n.ros id then (wasN n.ros id, 0) else (zeroRo, 14)) else (zeroRo, 2)
def sizeE (n : NetT) : Int × Int := if okN n then ((sizeN n.ros : Int), 0) else (0, 2)
/-- a router in memory: its rows' values beside it -/
structure RoM where
  ro : Ro
  x : Value
  y : Value
def roC (m : RoM) : List Value := [.int .i64 m.ro.id, .bool m.ro.up, m.x, m.y]
def roCs (l : List RoM) : List Value := l.flatMap roC
def rosOf (l : List RoM) : List Ro := l.map (·.ro)
theorem roCs_len (l : List RoM) : (roCs l).length = l.length * 4 := by
  induction l with
  | nil => rfl
  | cons s l ih =>
    show (roC s ++ roCs l).length = _
    rw [List.length_append, ih, List.length_cons]
    show 4 + _ = _
    omega
theorem roCs_app (a b : List RoM) : roCs (a ++ b) = roCs a ++ roCs b := by unfold roCs; rw [List.flatMap_append]
def RowsOf (W : World) (m : RoM) : Prop := HasRts W m.x m.ro.rts ∧ HasLks W m.y m.ro.lks
theorem RowsOf.keep {W W' : World} {m : RoM} (h : RowsOf W m) (hb : Below W.heap.size W W') : RowsOf W' m := ⟨h.1.keep hb, h.2.keep hb⟩
theorem RowsOf.slices {W : World} {m : RoM} (h : RowsOf W m) : ∃ o1 c1 o2 c2, m.x = .slice o1 m.ro.rts.length c1 ∧ m.y = .slice o2 m.ro.lks.length c2 := by
  obtain ⟨o1, c1, e1, _⟩ := Lk.HasRow.slice h.1
  obtain ⟨o2, c2, e2, _⟩ := Lk.HasRow.slice h.2
  exact ⟨o1, c1, o2, c2, e1, e2⟩
def HasRoM (W : World) (v : Value) (l : List RoM) : Prop := HasRow W v 4 l.length (roCs l) ∧ ∀ m ∈ l, RowsOf W m
theorem HasRoM.keep {W W' : World} {v : Value} {l : List RoM} (h : HasRoM W v l) (hb : Below W.heap.size W W') : HasRoM W' v l := ⟨Lk.HasRow.keep h.1 hb, fun m hm => (h.2 m hm).keep hb⟩
theorem one_ros {W : World} {l : List RoM} (h : ∀ m ∈ l, RowsOf W m) : ∀ x ∈ roCs l, x.oneCell' = true := by
  intro x hx
  obtain ⟨p, hp, h1⟩ := List.mem_flatMap.1 hx
  obtain ⟨o1, c1, o2, c2, e1, e2⟩ := (h p hp).slices
  simp only [roC, List.mem_cons, List.not_mem_nil, or_false] at h1
  rcases h1 with rfl | rfl | rfl | rfl
  · rfl
  · rfl
  · rw [e1]; rfl
  · rw [e2]; rfl
def HasRos (W : World) (v : Value) (L : List Ro) : Prop := ∃ M, rosOf M = L ∧ HasRoM W v M
theorem HasRos.keep {W W' : World} {v : Value} {L : List Ro} (h : HasRos W v L) (hb : Below W.heap.size W W') : HasRos W' v L := by
  obtain ⟨M, e, hM⟩ := h
  exact ⟨M, e, hM.keep hb⟩
theorem HasRos.slice {W : World} {v : Value} {L : List Ro} (h : HasRos W v L) : ∃ o c, v = .slice o L.length c ∧ L.length ≤ c ∧ c ≤ 9223372036854775807 := by
  obtain ⟨M, e, hM⟩ := h
  obtain ⟨o, c, e1, e2⟩ := Lk.HasRow.slice hM.1
  have : L.length = M.length := by rw [← e]; simp [rosOf]
  rw [this]
  exact ⟨o, c, e1, e2⟩
theorem roCs_at (l : List RoM) : ∀ j (h : j < l.length) t, t < 4 → (roCs l)[4 * j + t]? = (roC l[j])[t]? := by
  induction l with
  | nil => intro j h; simp at h
  | cons p ps ih =>
    intro j h t ht
    show (roC p ++ roCs ps)[4 * j + t]? = _
    cases j with
    | zero => rw [List.getElem?_append_left (by show 4 * 0 + t < 4; omega)]; simp
    | succ j =>
      rw [List.getElem?_append_right (by show 4 ≤ _; omega)]
      have := ih j (by simpa using h) t ht
      simp only [List.getElem_cons_succ]
      rw [← this]
      congr 1
      show 4 * (j + 1) + t - 4 = _
      omega
theorem HasRoM.cell {W : World} {o : Option Addr} {m cap : Nat} {l : List RoM} (h : HasRoM W (.slice o m cap) l) (j : Nat) (hj : j < l.length) : ∃ b i, o = some ⟨b, i, none⟩ ∧ b < W.heap.size ∧ W.cell? ⟨b, i + j * 4, none⟩ = some (.int .i64 l[j].ro.id) ∧ W.cell? ⟨b, i + j * 4 + 1, none⟩ = some (.bool l[j].ro.up) ∧ W.cell? ⟨b, i + j * 4 + 2, none⟩ = some l[j].x ∧ W.cell? ⟨b, i + j * 4 + 3, none⟩ = some l[j].y := by
  obtain ⟨_, b, i, e, hb, hc⟩ := Lk.HasRow.at h.1 (by omega)
  have key := fun t (ht : t < 4) => roCs_at l j hj t ht
  refine ⟨b, i, e, hb, ?_, ?_, ?_, ?_⟩
  · rw [hc (j * 4) (by omega), Nat.mul_comm]; exact key 0 (by omega)
  · rw [Nat.add_assoc, hc (j * 4 + 1) (by omega), Nat.mul_comm]; exact key 1 (by omega)
  · rw [Nat.add_assoc, hc (j * 4 + 2) (by omega), Nat.mul_comm]; exact key 2 (by omega)
  · rw [Nat.add_assoc, hc (j * 4 + 3) (by omega), Nat.mul_comm]; exact key 3 (by omega)
/-- one router of a row -/
theorem HasRos.cell {W : World} {o : Option Addr} {m cap : Nat} {L : List Ro} (h : HasRos W (.slice o m cap) L) (j : Nat) (hj : j < L.length) : ∃ b i o1 c1 o2 c2, o = some ⟨b, i, none⟩ ∧ b < W.heap.size ∧ W.cell? ⟨b, i + j * 4, none⟩ = some (.int .i64 L[j].id) ∧ W.cell? ⟨b, i + j * 4 + 1, none⟩ = some (.bool L[j].up) ∧ W.cell? ⟨b, i + j * 4 + 2, none⟩ = some (.slice o1 L[j].rts.length c1) ∧ W.cell? ⟨b, i + j * 4 + 3, none⟩ = some (.slice o2 L[j].lks.length c2) ∧ HasRts W (.slice o1 L[j].rts.length c1) L[j].rts ∧ HasLks W (.slice o2 L[j].lks.length c2) L[j].lks := by
  obtain ⟨M, e, hM⟩ := h
  subst e
  have hj2 : j < M.length := by simpa [rosOf] using hj
  obtain ⟨b, i, e1, hb, h0, h1, h2, h3⟩ := hM.cell j hj2
  have hr := hM.2 M[j] (List.getElem_mem hj2)
  obtain ⟨o1, c1, o2, c2, e2, e3⟩ := hr.slices
  have he : (rosOf M)[j] = M[j].ro := by simp [rosOf]
  rw [e2] at h2
  rw [e3] at h3
  have hx := hr.1
  have hy := hr.2
  rw [e2] at hx
  rw [e3] at hy
  exact ⟨b, i, o1, c1, o2, c2, e1, hb, by rw [he]; exact h0, by rw [he]; exact h1, by rw [he]; exact h2, by rw [he]; exact h3, by rw [he]; exact hx, by rw [he]; exact hy⟩
theorem roCs_take (l : List RoM) : ∀ j, (roCs l).take (j * 4) = roCs (l.take j) := by
  induction l with
  | nil => intro j; simp [roCs]
  | cons x l ih =>
    intro j
    cases j with
    | zero => simp [roCs]
    | succ j =>
      show (roC x ++ roCs l).take ((j + 1) * 4) = roC x ++ roCs (l.take j)
      rw [List.take_append, ← ih j]
      congr 1
      · rw [List.take_of_length_le (by show 4 ≤ _; omega)]
      · show (roCs l).take ((j + 1) * 4 - 4) = _
        congr 1
        omega
theorem roCs_drop (l : List RoM) : ∀ j, (roCs l).drop (j * 4) = roCs (l.drop j) := by
  induction l with
  | nil => intro j; simp [roCs]
  | cons x l ih =>
    intro j
    cases j with
    | zero => simp
    | succ j =>
      show (roC x ++ roCs l).drop ((j + 1) * 4) = roCs (l.drop j)
      rw [List.drop_append, ← ih j, List.drop_of_length_le (l := roC x) (by show 4 ≤ _; omega), List.nil_append]
      show (roCs l).drop ((j + 1) * 4 - 4) = _
      congr 1
      omega
theorem HasRoM.take {W : World} {o : Option Addr} {n c : Nat} {l : List RoM} (h : HasRoM W (.slice o n c) l) (k : Nat) (hk : k ≤ l.length) : HasRoM W (.slice o k c) (l.take k) := by
  have hlk : (l.take k).length = k := by rw [List.length_take]; omega
  refine ⟨?_, fun m hm => h.2 m (List.mem_of_mem_take hm)⟩
  rw [hlk]
  refine ⟨by rw [roCs_len, hlk], ?_⟩
  rcases h.1.2 with ⟨e, h0⟩ | ⟨a, cap, e, h1, h2, h3, h4⟩
  · injection e with e1 e2 e3
    subst e1 e3
    have hk0 : k = 0 := by omega
    subst hk0
    exact .inl ⟨rfl, rfl⟩
  · injection e with e1 e2 e3
    subst e1 e3
    refine .inr ⟨a, c, rfl, by omega, h2, fun hp => h3 (by omega), fun j hj => ?_⟩
    rw [h4 j (by omega), ← roCs_take, List.getElem?_take, if_pos hj]
theorem HasRoM.drop {W : World} {b i n c : Nat} {l : List RoM} (h : HasRoM W (.slice (some ⟨b, i, none⟩) n c) l) (k : Nat) (hk : k ≤ l.length) : HasRoM W (.slice (some ⟨b, i + k * 4, none⟩) (l.length - k) (c - k)) (l.drop k) := by
  have hlk : (l.drop k).length = l.length - k := by rw [List.length_drop]
  refine ⟨?_, fun m hm => h.2 m (List.mem_of_mem_drop hm)⟩
  rw [hlk]
  refine ⟨by rw [roCs_len, hlk], ?_⟩
  rcases h.1.2 with ⟨e, h0⟩ | ⟨a, cap, e, h1, h2, h3, h4⟩
  · cases e
  · injection e with e1 e2 e3
    injection e1 with e1
    subst e1 e3
    refine .inr ⟨_, _, rfl, by omega, by omega, fun hp => ⟨rfl, (h3 (by omega)).2⟩, fun j hj => ?_⟩
    have := h4 (k * 4 + j) (by omega)
    rw [addr_add] at this ⊢
    rw [Nat.add_assoc, this, ← roCs_drop, List.getElem?_drop]
theorem hasRoM_empty (W : World) (a : Addr) (c : Nat) (hc : c ≤ 9223372036854775807) : HasRoM W (.slice (some a) 0 c) [] :=
  ⟨⟨rfl, .inr ⟨a, c, rfl, Nat.zero_le _, hc, fun h => absurd h (by decide), fun j hj => absurd hj (by show ¬ j < 0 * 4; omega)⟩⟩, fun m hm => by cases hm⟩
theorem hasRos_nil (W : World) : HasRos W (.slice none 0 0) [] := ⟨[], rfl, Lk.hasRow_nil _ 4, fun m hm => by cases hm⟩
structure FitN (n : NetT) : Prop where
  seats : ∀ s ∈ n.seats, Ord.FitS s
  ros : ∀ R ∈ n.ros, FitRo R
theorem okN_parts {n : NetT} (h : okN n = true) : okL n.seats = true ∧ n.ros.length = n.seats.length ∧ eachR n.ros n.seats = true ∧ sizeN n.ros ≤ 1024 := by
  unfold okN at h
  simp only [Bool.and_eq_true, decide_eq_true_eq] at h
  exact ⟨h.1, h.2.1, h.2.2.1, h.2.2.2⟩
end Go.Proofs.YtkjhnefbcnnjlaaGreat.Nt
namespace Go.Proofs.YtkjhnefbcnnjlaaGreat.Nt
open Go.RowKit
open Go.Proofs.YtkjhnefbcnnjlaaGreat.Lk (HasLks.keep)
open Go.Proofs.YtkjhnefbcnnjlaaGreat.Tr (HasRts.keep)
open Go.Proofs.YtkjhnefbcnnjlaaGreat.Fib
open Go.Proofs.YtkjhnefbcnnjlaaGreat.Addr (RowAt below2 below_new RowAt.lt RowAt.cell RowAt.below RowAt.new RowAt.alloc cells2 cells4 Bl bl_ne wp_region_bl)
set_option maxHeartbeats 2000000 in
theorem is1_any (a : Int) (u : Bool) (o1 o2 : Option Addr) (n1 n2 c1 c2 : Nat) (g : Nat) (r : Int) (w : World) (hg : RowAt w g [.int .i64 r] 3) :
    Calls Tryz.prog 72 #[.agg #[.int .i64 a, .bool u, .slice o1 n1 c1, .slice o2 n2 c2], .pointer (some ⟨g, 0, none⟩)] w fun e w' => e = .returned (.bool (decide (r ≤ a))) ∧ Below w.heap.size w w' := by
  obtain ⟨X, hX⟩ : ∃ X, X = w.alloc (.cells #[.int .i64 a, .bool u, .slice o1 n1 c1, .slice o2 n2 c2] 51) := ⟨_, rfl⟩
  have hB : Below w.heap.size w X := by rw [hX]; exact below_new (Below.refl _ _) _
  have r0 : RowAt X w.heap.size [.int .i64 a, .bool u, .slice o1 n1 c1, .slice o2 n2 c2] 51 := by rw [hX]; exact RowAt.new _ _ _
  have r1 := RowAt.below hg hB
  obtain ⟨x0, x1, x2, x3, xf⟩ := cells4 r0
  have y0 : X.cell? ⟨g, 0, none⟩ = some (.int .i64 r) := r1.cell 0
  clear r0 r1 hg
  go_enter Tryz.func72, Tryz.ntmps72
  go_upto_region 1 with fail
  rw [← hX]
  clear hX
  go_wp2_with fail
  go_ret
  exact ⟨by first | rfl | simp, hB⟩
def idxR (l : List Ro) (r : Int) (k : Nat) : Int :=
  match (l.drop k).findIdx? (fun s => decide (r ≤ s.id)) with
  | some j => ((k + j : Nat) : Int)
  | none => -1
theorem idx_end (l : List Ro) (r : Int) (k : Nat) (h : l.length ≤ k) : idxR l r k = -1 := by unfold idxR; rw [List.drop_of_length_le h]; rfl
theorem idx_hit (l : List Ro) (r : Int) (k : Nat) (h : k < l.length) (hr : decide (r ≤ l[k].id) = true) : idxR l r k = (k : Int) := by
  unfold idxR
  rw [List.drop_eq_getElem_cons h, List.findIdx?_cons, hr]
  simp
theorem idx_miss (l : List Ro) (r : Int) (k : Nat) (h : k < l.length) (hr : decide (r ≤ l[k].id) = false) : idxR l r k = idxR l r (k + 1) := by
  unfold idxR
  rw [List.drop_eq_getElem_cons h, List.findIdx?_cons, hr]
  cases (l.drop (k + 1)).findIdx? (fun s => decide (r ≤ s.id)) with
  | none => simp
  | some j => simp; omega
set_option maxHeartbeats 4000000 in
set_option maxRecDepth 20000 in
theorem index_any (l : List Ro) (v : Value) (g : Nat) (r : Int) (w : World) (h : HasRos w v l) (hg : RowAt w g [.int .i64 r] 3) :
    Calls Tryz.prog 100 #[v, .func (.func 72) #[] #[.pointer (some ⟨g, 0, none⟩)]] w fun e w' => e = .returned (.int .i64 (idxR l r 0)) ∧ Below w.heap.size w w' := by
  obtain ⟨o, c, rfl, hc1, hc2⟩ := HasRos.slice h
  have HR : Hid (∀ wr : World, Below w.heap.size w wr → HasRos wr (.slice o l.length c) l ∧ RowAt wr g [.int .i64 r] 3) := fun wr hb => ⟨h.keep hb, RowAt.below hg hb⟩
  obtain ⟨n, hn⟩ : ∃ n, n = l.length := ⟨_, rfl⟩
  have HN : Hid (n = l.length) := hn
  rw [← hn] at HR hc1 ⊢
  have hni : (n : Int) ≤ 9223372036854775807 := by omega
  obtain ⟨R, hR⟩ : ∃ R, R = idxR l r 0 := ⟨_, rfl⟩
  have HD : Hid (R = idxR l r 0) := hR
  rw [← hR]
  clear h hg hn hR
  go_enter Tryz.func100, Tryz.ntmps100
  go_wp2_with fail
  go_loopw [8] (fun i wr => ∃ k : Nat, k ≤ n ∧ i = .int .i64 k ∧ Below w.heap.size w wr ∧ Hid (R = idxR l r k)) (fun i _ => n - (Go.RowKit.intOf i).toNat)
  case atStart => exact ⟨0, by omega, rfl, Below.refl _ _, HD⟩
  case round =>
    obtain ⟨k, hk, rfl, hB, HG⟩ := hrel
    obtain ⟨hh, hr⟩ := HR.out _ hB
    by_cases hlt : k < n
    · have hkz : k < l.length := by rw [← HN.out]; exact hlt
      obtain ⟨g1, i1, o1, c1, o2, c2, rfl, hg1, a0, a1, a2, a3, _, _⟩ := HasRos.cell hh k hkz
      have HB1 : Hid (decide (r ≤ l[k].id) = true → R = (k : Int)) := fun h => by rw [HG.out]; exact idx_hit l r k hkz h
      have HB2 : Hid (decide (r ≤ l[k].id) = false → R = idxR l r (k + 1)) := fun h => by rw [HG.out]; exact idx_miss l r k hkz h
      have hki : (k : Int) < (n : Int) := by omega
      generalize l[k].id = ra at a0 HB1 HB2
      generalize l[k].up = ru at a1
      generalize l[k].rts.length = q1 at a2
      generalize l[k].lks.length = q2 at a3
      have cr := is1_any ra ru o1 o2 q1 q2 c1 c2 g r wr hr
      generalize decide (r ≤ ra) = B at cr HB1 HB2
      clear HG hh hr hg1
      go_wp2_with fail
      go_at_call 72; refine cr.mono ?_; rintro e w1 ⟨rfl, hb1⟩
      have hW := below2 hB hb1
      cases B
      · have HS1 := HB2.out rfl
        clear HB1 HB2 a0 a1 a2 a3
        go_wp2_with fail
        go_roundw
        case rel => exact ⟨k + 1, by omega, by go_num, hW, HS1⟩
        case measure => simp [Go.RowKit.intOf]; omega
      · have HV : Hid (R = (k : Int)) := HB1.out rfl
        clear HB1 HB2 a0 a1 a2 a3
        go_wp2_with fail
        go_ret
        exact ⟨by rw [HV.out]; rfl, hW⟩
    · obtain rfl : k = n := by omega
      have HV : Hid (R = -1) := by show _ = _; rw [HG.out]; exact idx_end l r _ (by rw [← HN.out]; exact Nat.le_refl _)
      clear hh hr HG
      go_wp2
      go_ret
      exact ⟨by rw [HV.out]; rfl, hB⟩
theorem pos_le (l : List Ro) (r : Int) : posN l r ≤ l.length := List.findIdx_le_length
theorem idx_pos (l : List Ro) (r : Int) : (idxR l r 0 = -1 ∧ posN l r = l.length) ∨ (idxR l r 0 = (posN l r : Int) ∧ posN l r < l.length) := by
  unfold idxR posN
  rw [List.drop_zero]
  cases hf : l.findIdx? (fun s => decide (r ≤ s.id)) with
  | none =>
    refine .inl ⟨rfl, ?_⟩
    rw [List.findIdx?_eq_none_iff] at hf
    rw [List.findIdx_eq_length]
    exact fun x hx => hf x hx
  | some j =>
    rw [List.findIdx?_eq_some_iff_findIdx_eq] at hf
    refine .inr ⟨?_, by rw [hf.2]; exact hf.1⟩
    rw [hf.2]
    simp
set_option maxHeartbeats 4000000 in
set_option maxRecDepth 20000 in
theorem place_any (L : List Ro) (gf g : Nat) (s : Value) (lo : Option Addr) (ln lc : Nat) (r : Int) (w : World) (so : Option Addr) (sn sc : Nat) (hs : s = .slice so sn sc) (hf : RowAt w gf [s, .slice lo ln lc] 54) (hl : HasRos w (.slice lo ln lc) L) (el : Hid (ln = L.length)) (hg : RowAt w g [.int .i64 r] 3) :
    Calls Tryz.prog 71 #[.pointer (some ⟨gf, 0, none⟩), .func (.func 72) #[] #[.pointer (some ⟨g, 0, none⟩)]] w fun e w' => e = .returned (.int .i64 (posN L r : Int)) ∧ Below w.heap.size w w' := by
  subst hs
  have ci := index_any L _ g r w hl hg
  have HX : Hid ((idxR L r 0 = -1 ∧ posN L r = L.length) ∨ (idxR L r 0 = (posN L r : Int) ∧ posN L r < L.length)) := idx_pos L r
  generalize idxR L r 0 = z at ci HX
  generalize posN L r = p at HX ⊢
  have hlt := RowAt.lt hf
  obtain ⟨x0, x1, xf⟩ := cells2 hf
  rcases HX.out with ⟨h1, h2⟩ | ⟨h1, h2⟩
  · subst h1
    have HP : Hid (p = ln) := by show p = _; rw [h2, el.out]
    clear h2 HX
    go_enter Tryz.func71, Tryz.ntmps71
    go_wp2_with fail
    go_at_call 100; refine ci.mono ?_; rintro e w1 ⟨rfl, hb1⟩
    obtain ⟨x0, x1, xf⟩ := cells2 (RowAt.below hf hb1)
    have hlt1 : gf < w1.heap.size := Nat.lt_of_lt_of_le hlt hb1.size
    go_wp2_with fail
    go_ret
    exact ⟨by rw [HP.out]; rfl, hb1⟩
  · subst h1
    have hnn : ¬ ((p : Int) < 0) := by omega
    clear h2 HX
    go_enter Tryz.func71, Tryz.ntmps71
    go_wp2_with fail
    go_at_call 100; refine ci.mono ?_; rintro e w1 ⟨rfl, hb1⟩
    go_wp2_with fail
    go_ret
    exact ⟨rfl, hb1⟩
set_option maxHeartbeats 4000000 in
set_option maxRecDepth 20000 in
theorem find_any (L : List Ro) (gf : Nat) (so lo : Option Addr) (sn sc ln lc : Nat) (r : Int) (w : World) (hf : RowAt w gf [.slice so sn sc, .slice lo ln lc] 54) (hl : HasRos w (.slice lo ln lc) L) :
    Calls Tryz.prog 43 #[.pointer (some ⟨gf, 0, none⟩), .int .i64 r] w fun e w' => e = .returned (.tuple #[.int .i64 (posN L r : Int), .bool (isN L r)]) ∧ Below w.heap.size w w' := by
  obtain ⟨o', c', e', hc1, hc2⟩ := HasRos.slice hl
  injection e' with e1 e2 e3
  subst e1 e3
  have EL : Hid (ln = L.length) := e2
  obtain ⟨X, hX⟩ : ∃ X, X = w.alloc (.cells #[.int .i64 r] 3) := ⟨_, rfl⟩
  have hB : Below w.heap.size w X := by rw [hX]; exact below_new (Below.refl _ _) _
  have rr : RowAt X w.heap.size [.int .i64 r] 3 := by rw [hX]; exact RowAt.new _ _ _
  have rf := RowAt.below hf hB
  have hlX := hl.keep hB
  have cp := place_any L gf w.heap.size _ lo ln lc r X so sn sc rfl rf hlX EL rr
  have hpl := pos_le L r
  have hlt := RowAt.lt rf
  have HI : Hid (isN L r = match L[posN L r]? with | some R => decide (R.id = r) | none => false) := rfl
  generalize isN L r = I at HI ⊢
  generalize hp : posN L r = p at *
  clear hp e2 hl hf
  have hni : (ln : Int) ≤ 9223372036854775807 := by have := EL.out; omega
  go_enter Tryz.func43, Tryz.ntmps43
  go_upto_region 1 with fail
  rw [← hX]
  clear hX
  generalize w.heap.size = gr at rr cp ⊢
  obtain ⟨x0, x1, xf⟩ := cells2 rf
  go_wp2_with fail
  go_at_call 71; refine cp.mono ?_; rintro e w1 ⟨rfl, hb1⟩
  replace rf := RowAt.below rf hb1
  replace rr := RowAt.below rr hb1
  replace hlX := hlX.keep hb1
  replace hB := below2 hB hb1
  have hlt1 : gf < w1.heap.size := RowAt.lt rf
  clear x0 x1 xf cp hb1
  have v0 : ∀ q : Bl w1, q.W.cell? ⟨gf, 1, none⟩ = some (.slice lo ln lc) := fun q => (rf.below q.h).cell 1
  have v1 : ∀ q : Bl w1, q.W.cell? ⟨gr, 0, none⟩ = some (.int .i64 r) := fun q => (rr.below q.h).cell 0
  haveI := bl_ne w1
  have hls : ∀ q : Bl w1, gf < q.W.heap.size := fun q => RowAt.lt (rf.below q.h)
  by_cases hpn : p < ln
  · have hpz : p < L.length := by rw [← EL.out]; exact hpn
    obtain ⟨b1, i1, o1, c1, o2, c2, rfl, hbb, a0, _, _, _, _, _⟩ := HasRos.cell hlX p hpz
    have u0 : ∀ q : Bl w1, q.W.cell? ⟨b1, i1 + p * 4, none⟩ = some (.int .i64 L[p].id) := fun q => (q.h.cell (p := ⟨b1, i1 + p * 4, none⟩) hbb).trans a0
    have HI2 : Hid (I = decide (L[p].id = r)) := by show I = _; rw [HI.out, List.getElem?_eq_getElem hpz]
    generalize L[p].id = ii at *
    have hpi : (p : Int) < (ln : Int) := by omega
    have hp1 : decide ((p : Int) < (ln : Int)) = true := decide_eq_true hpi
    have hp2 : decide (p < ln) = true := decide_eq_true hpn
    have HE : Hid ((ii == r) = decide (ii = r)) := by show _ = _; rw [Bool.beq_eq_decide_eq]
    generalize hiq : (ii == r) = E at HE
    clear HI a0 hbb
    go_wp2_with fail
    refine wp_region_bl (by kernel_rfl) (by kernel_rfl) ?_
    repeat (go_big_quiet_step (fail))
    refine wpQuiet_nil ?_
    intro wq hw'
    obtain ⟨⟨wz, hq⟩, hw2⟩ := hw'
    subst hw2
    have hW := below2 hB hq
    go_wp2_with fail
    go_ret2
    exact ⟨by rw [HI2.out, ← HE.out]; first | rfl | simp [hiq], hW⟩
  · have hpe : p = ln := by have := EL.out; omega
    have HI2 : Hid (I = false) := by show I = _; rw [HI.out, List.getElem?_eq_none (by rw [← EL.out]; omega)]
    have hp1 : decide ((p : Int) < (ln : Int)) = false := decide_eq_false (by omega)
    have hp2 : decide (p < ln) = false := decide_eq_false hpn
    clear HI hpe
    go_wp2_with fail
    refine wp_region_bl (by kernel_rfl) (by kernel_rfl) ?_
    repeat (go_big_quiet_step (fail))
    refine wpQuiet_nil ?_
    intro wq hw'
    obtain ⟨⟨wz, hq⟩, hw2⟩ := hw'
    subst hw2
    have hW := below2 hB hq
    go_wp2_with fail
    go_ret2
    exact ⟨by rw [HI2.out]; rfl, hW⟩
end Go.Proofs.YtkjhnefbcnnjlaaGreat.Nt
