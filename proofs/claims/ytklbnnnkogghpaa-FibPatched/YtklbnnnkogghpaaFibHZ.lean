/- Routers that came in as arguments. -/
import Derived.Test.YtklbnnnkogghpaaTrPutM
import Derived.Test.YtklbnnnkogghpaaLkHZ
import Derived.Test.YtklbnnnkogghpaaMsgChk3
import Derived.Test.YtklbnnnkogghpaaTrRows
import Derived.Test.YtklbnnnkogghpaaAddrHalves
import Derived.Test.YtklbnnnkogghpaaTrHY
import Derived.Deep.RegionHeld3
import Derived.Test.YtklbnnnkogghpaaTrCheck
import Derived.Laws.ResultCell
import Derived.Test.YtklbnnnkogghpaaTrHZ
import Derived.Test.YtklbnnnkogghpaaRows
import Derived.Test.YtklbnnnkogghpaaMsgOpen
import Derived.Test.YtklbnnnkogghpaaTrBase
import Derived.Deep.Matrix
import Derived.Deep.Strs
import Derived.Deep.SlicePairs
import Derived.ProofKit
import Derived.OpenShut
import Derived.SizedLaws
set_option linter.unusedVariables false
namespace Go.Proofs.Ytklbnnnkogghpaa.Fib
open Go.RowKit
open Go.Proofs.Ytklbnnnkogghpaa.Addr (Pf okP rightB hasB hiN loN RowAt RowAt.cell RowAt.lt)
open Go.Proofs.Ytklbnnnkogghpaa.Msg (Ev Ac okE FitE)
open Go.Proofs.Ytklbnnnkogghpaa.Lk (Lk HasLks HasRow okL peerL delL FitL)
open Go.Proofs.Ytklbnnnkogghpaa.Tr (Rt HasRts okT putT delT FitR rtCs)
/-- a router, plain -/
structure Ro where
  id : Int
  up : Bool
  rts : List Rt
  lks : List Lk
def roV (R : Ro) (a b : Value) : Value := .agg #[.int .i64 R.id, .bool R.up, a, b]
def okId (i : Int) : Bool := decide (0 ≤ i) && decide (i ≤ 1048576)
def okRo (R : Ro) : Bool := okId R.id && okT R.rts && okL R.lks && (R.up || decide (R.rts.length + R.lks.length = 0))
def checkRo (R : Ro) : Int := if okRo R then 0 else 2
def zeroRo : Ro := ⟨0, false, [], []⟩
def makeRo (i : Int) : Ro × Int := if okId i then (⟨i, false, [], []⟩, 0) else (zeroRo, 1)
def sizeRo (R : Ro) : Int × Int := if okRo R then (((R.rts.length + R.lks.length : Nat) : Int), 0) else (0, 2)
def misRo (R : Ro) (e : Ev) : Int := if e.router = R.id then (if decide (e.kind = 1) = R.up then 10 else 0) else 14
def takeRo (R : Ro) (e : Ev) : Ro × Int :=
  if e.kind = 1 then (⟨R.id, true, R.rts, R.lks⟩, 0)
  else if e.kind = 2 then (⟨R.id, false, [], []⟩, 0)
  else if e.kind = 3 then (⟨R.id, R.up, (putT R.rts ⟨e.pf, e.act⟩).1, R.lks⟩, (putT R.rts ⟨e.pf, e.act⟩).2)
  else if e.kind = 4 then (⟨R.id, R.up, (delT R.rts e.pf).1, R.lks⟩, 0)
  else if e.kind = 5 then (⟨R.id, R.up, R.rts, (Lk.putL R.lks ⟨e.iface, e.peer⟩).1⟩, (Lk.putL R.lks ⟨e.iface, e.peer⟩).2)
  else if e.kind = 6 then (⟨R.id, R.up, R.rts, (delL R.lks e.iface).1⟩, 0)
  else (R, 0)
def applyRo (R : Ro) (e : Ev) : Ro × Int := if okRo R && okE e then (if misRo R e = 0 then takeRo R e else (R, misRo R e)) else (zeroRo, 2)
/-- what becomes of a packet: kind, peer -/
def sendsRo (R : Ro) (i : Int) : Nat × Int := if (peerL R.lks i).2 = 0 then (1, (peerL R.lks i).1) else (0, 0)
def doesRo (R : Ro) (a : Ac) : Nat × Int := if a.k = 1 then sendsRo R a.i else if a.k = 2 then (2, 0) else if a.k = 3 then (3, 0) else (0, 0)
structure FitRo (R : Ro) : Prop where
  id : -9223372036854775808 ≤ R.id ∧ R.id ≤ 9223372036854775807
  rts : ∀ x ∈ R.rts, FitR x
  lks : ∀ x ∈ R.lks, FitL x
/-- rows stand apart from a box of a router -/
theorem row_apart {W W' : World} {v : Value} {sz n B : Nat} {cs : List Value} (h : HasRow W v sz n cs) (hg : W.grownBy W' (some B)) (hne : ∀ b i m c, v = .slice (some ⟨b, i, none⟩) m c → 0 < n → b ≠ B) : HasRow W' v sz n cs := by
  refine ⟨h.1, ?_⟩
  rcases h.2 with h0 | ⟨a, cap, e, h1, h2, h3, h4⟩
  · exact .inl h0
  · refine .inr ⟨a, cap, e, h1, h2, fun hp => ⟨(h3 hp).1, Nat.lt_of_lt_of_le (h3 hp).2 hg.size⟩, fun j hj => ?_⟩
    have hn : 0 < n := by
      rcases Nat.eq_zero_or_pos n with h0 | h0
      · subst h0; omega
      · exact h0
    obtain ⟨h5, h6⟩ := h3 hn
    obtain ⟨b, i, s⟩ := a
    simp only at h5 h6
    subst h5
    have hb := hne b i n cap e hn
    rw [Lk.addr_add] at *
    rw [← h4 j hj, Lk.addr_add]
    unfold World.cell?
    simp only
    rw [hg.block b h6 (fun e => by injection e with e; exact hb e)]
theorem rts_apart {W W' : World} {v : Value} {l : List Rt} {B : Nat} {c0 c1 c2 c3 : Value} {t : TypeId} (h : HasRts W v l) (hr : RowAt W B [c0, c1, c2, c3] t) (hg : W.grownBy W' (some B)) : HasRts W' v l := by
  refine row_apart h hg (fun b i m c e hp hb => ?_)
  subst hb
  subst e
  obtain ⟨b', i', e', _, hc⟩ := Tr.HasRts.cell h 0 hp
  injection e' with e'
  injection e' with e1 e2
  subst e1 e2
  have := hc 4 (by omega)
  rw [RowAt.cell hr] at this
  rw [List.getElem?_eq_none (by simp)] at this
  cases this
theorem lks_apart {W W' : World} {v : Value} {l : List Lk} {B : Nat} {k0 : IntKind} {i0 : Int} {u : Bool} {o2 o3 : Option Addr} {n2 n3 m2 m3 : Nat} {t : TypeId} (h : HasLks W v l) (hr : RowAt W B [.int k0 i0, .bool u, .slice o2 n2 m2, .slice o3 n3 m3] t) (hg : W.grownBy W' (some B)) : HasLks W' v l := by
  refine row_apart h hg (fun b i m c e hp hb => ?_)
  subst hb
  subst e
  obtain ⟨b', i', e', _, hc⟩ := Lk.HasLks.cell h 0 hp
  injection e' with e'
  injection e' with e1 e2
  subst e1 e2
  obtain ⟨h0, h1⟩ := hc
  rw [RowAt.cell hr] at h0 h1
  simp only [Nat.zero_mul, Nat.add_zero] at h0 h1
  rcases i with _ | _ | _ | _ | i
  · simp at h1
  · simp at h0
  · simp at h0
  · simp at h0
  · rw [List.getElem?_eq_none (by simp)] at h0
    cases h0
theorem okRo_parts {R : Ro} (h : okRo R = true) : okId R.id = true ∧ okT R.rts = true ∧ okL R.lks = true ∧ R.rts.length ≤ 256 ∧ R.lks.length ≤ 32 ∧ (R.up = false → R.rts = [] ∧ R.lks = []) := by
  unfold okRo at h
  simp only [Bool.and_eq_true, Bool.or_eq_true, decide_eq_true_eq] at h
  obtain ⟨⟨⟨h1, h2⟩, h3⟩, h4⟩ := h
  refine ⟨h1, h2, h3, ((Tr.okT_iff _).1 h2).1, Lk.okL_len2 h3, fun hu => ?_⟩
  rcases h4 with h4 | h4
  · rw [hu] at h4; cases h4
  · exact ⟨List.length_eq_zero_iff.1 (by omega), List.length_eq_zero_iff.1 (by omega)⟩
end Go.Proofs.Ytklbnnnkogghpaa.Fib
namespace Go.Proofs.Ytklbnnnkogghpaa.Fib
open Go.RowKit
open Go.Proofs.Ytklbnnnkogghpaa.Addr (hiN loN RowAt below2 below_drew below_new RowAt.lt RowAt.cell RowAt.frozen RowAt.below RowAt.drew RowAt.new RowAt.alloc RowAt.set1 RowAt.far1 cells4 gset grefl bset results_cell)
open Go.Proofs.Ytklbnnnkogghpaa.Lk (Lk HasLks HasLks.keep hasRow_own)
open Go.Proofs.Ytklbnnnkogghpaa.Tr (Rt HasRts HasRts.keep)
theorem set4_row {W : World} {B : Nat} {c0 c1 c2 c3 : Value} {t : TypeId} (h : RowAt W B [c0, c1, c2, c3] t) (x y z u : Value) : RowAt ((((W.setCell ⟨B, 0, none⟩ x).setCell ⟨B, 1, none⟩ y).setCell ⟨B, 2, none⟩ z).setCell ⟨B, 3, none⟩ u) B [x, y, z, u] t := (((h.set1 0 x).set1 1 y).set1 2 z).set1 3 u
theorem set4_gr (W : World) (B : Nat) (x y z u : Value) : W.grownBy ((((W.setCell ⟨B, 0, none⟩ x).setCell ⟨B, 1, none⟩ y).setCell ⟨B, 2, none⟩ z).setCell ⟨B, 3, none⟩ u) (some B) := gset (gset (gset (gset (grefl _ _))))
theorem set4_bl {b0 B : Nat} {w0 W : World} (h : Below b0 w0 W) (hb : b0 ≤ B) (x y z u : Value) : Below b0 w0 ((((W.setCell ⟨B, 0, none⟩ x).setCell ⟨B, 1, none⟩ y).setCell ⟨B, 2, none⟩ z).setCell ⟨B, 3, none⟩ u) := bset (bset (bset (bset h hb) hb) hb) hb
set_option maxHeartbeats 2000000 in
theorem fresh_any (R : Ro) (a b : Value) (w : World) (ha : HasRts w a R.rts) (hb : HasLks w b R.lks) (h1 : R.rts.length ≤ 1000) (h2 : R.lks.length ≤ 1000) :
    Calls Try.prog 14 #[.agg #[.int .i64 R.id, .bool R.up, a, b]] w fun e w' => ∃ c d, e = .returned (.agg #[.int .i64 R.id, .bool R.up, c, d]) ∧ HasRts w' c R.rts ∧ HasLks w' d R.lks ∧ Below w.heap.size w w' := by
  have C1 : Hid (∀ W, HasRts W a R.rts → Calls Try.prog 27 #[a] W fun e w' => ∃ o n m, e = .returned (.slice o n m) ∧ HasRts w' (.slice o n m) R.rts ∧ Below W.heap.size W w') := by
    intro W hW
    refine (Tr.clone_any R.rts a W hW (by omega)).mono ?_
    rintro e w' ⟨u, rfl, ho, hb'⟩
    have hh : HasRts w' u R.rts := hasRow_own ho
    obtain ⟨o, c, rfl, _⟩ := Lk.HasRow.slice hh
    exact ⟨_, _, _, rfl, hh, hb'⟩
  have C2 : Hid (∀ W, HasLks W b R.lks → Calls Try.prog 29 #[b] W fun e w' => ∃ o n m, e = .returned (.slice o n m) ∧ HasLks w' (.slice o n m) R.lks ∧ Below W.heap.size W w') := by
    intro W hW
    refine (Lk.clone_any R.lks b W hW (by omega)).mono ?_
    rintro e w' ⟨u, rfl, ho, hb'⟩
    have hh : HasLks w' u R.lks := hasRow_own ho
    obtain ⟨o, c, rfl, _⟩ := Lk.HasRow.slice hh
    exact ⟨_, _, _, rfl, hh, hb'⟩
  obtain ⟨o1, n1, m1, rfl⟩ : ∃ o n m, a = .slice o n m := by obtain ⟨o, c, rfl, _⟩ := Lk.HasRow.slice ha; exact ⟨_, _, _, rfl⟩
  obtain ⟨o2, n2, m2, rfl⟩ : ∃ o n m, b = .slice o n m := by obtain ⟨o, c, rfl, _⟩ := Lk.HasRow.slice hb; exact ⟨_, _, _, rfl⟩
  obtain ⟨X, hX⟩ : ∃ X, X = (w.alloc (.cells #[.int .i64 R.id, .bool R.up, .slice o1 n1 m1, .slice o2 n2 m2] 25)).alloc (.cells #[.int .i64 0, .bool false, .slice none 0 0, .slice none 0 0] 25) := ⟨_, rfl⟩
  have hB : Below w.heap.size w X := by rw [hX]; exact below_new (below_new (Below.refl _ _) _) _
  have r0 : RowAt X w.heap.size [.int .i64 R.id, .bool R.up, .slice o1 n1 m1, .slice o2 n2 m2] 25 := by rw [hX]; exact (RowAt.new _ _ _).alloc _
  have r1 : RowAt X (w.heap.size + 1) [.int .i64 0, .bool false, .slice none 0 0, .slice none 0 0] 25 := by rw [hX, ← World.size_alloc w (.cells #[.int .i64 R.id, .bool R.up, .slice o1 n1 m1, .slice o2 n2 m2] 25)]; exact RowAt.new _ _ _
  have HA : Hid (HasRts X (.slice o1 n1 m1) R.rts ∧ HasLks X (.slice o2 n2 m2) R.lks) := ⟨ha.keep hB, hb.keep hB⟩
  clear ha hb h1 h2
  go_enter Try.func14, Try.ntmps14
  go_upto_region 1 with fail
  rw [← hX]
  clear hX
  obtain ⟨p0, p1, p2, p3, pf⟩ := cells4 r0
  go_region_with (first
    | (go_at_call 27
       refine (C1.out _ (HA.out.1.keep (Below.refl _ _).drew)).mono ?_
       rintro e w1 ⟨o3, n3, m3, rfl, hh1, hb1'⟩
       have hb1 : Below X.heap.size X w1 := below2 (Below.refl _ _).drew hb1'
       obtain ⟨p0, p1, p2, p3, pf⟩ := cells4 (RowAt.below r0 hb1))
    | (go_at_call 29
       refine (C2.out _ (HA.out.2.keep hb1)).mono ?_
       rintro e w2 ⟨o4, n4, m4, rfl, hh2, hb2⟩
       have hb3 : Below X.heap.size X w2 := below2 hb1 hb2
       obtain ⟨p0, p1, p2, p3, pf⟩ := cells4 (RowAt.below r0 hb3)))
  all_goals
    have R2 := RowAt.below r0 hb3
    have R1 := RowAt.below r1 hb3
    have hh3 := hh1.keep hb2
    obtain ⟨Y, hY⟩ : ∃ Y, Y = (w2.setCell ⟨w.heap.size, 2, none⟩ (.slice o3 n3 m3)).setCell ⟨w.heap.size, 3, none⟩ (.slice o4 n4 m4) := ⟨_, rfl⟩
    have g2 : w2.grownBy Y (some w.heap.size) := by rw [hY]; exact gset (gset (grefl _ _))
    have HR : Hid (HasRts Y (.slice o3 n3 m3) R.rts ∧ HasLks Y (.slice o4 n4 m4) R.lks) := ⟨rts_apart hh3 R2 g2, lks_apart hh2 R2 g2⟩
    have y0 : RowAt Y w.heap.size [.int .i64 R.id, .bool R.up, .slice o3 n3 m3, .slice o4 n4 m4] 25 := by rw [hY]; exact (R2.set1 2 _).set1 3 _
    have y1 : RowAt Y (w.heap.size + 1) [.int .i64 0, .bool false, .slice none 0 0, .slice none 0 0] 25 := by rw [hY]; exact (R1.far1 (by omega) _ _).far1 (by omega) _ _
    have hBY : Below w.heap.size w Y := by rw [hY]; exact bset (bset (below2 hB hb3) (Nat.le_refl _)) (Nat.le_refl _)
    rw [← hY]
    clear hY hh1 hh2 hh3 R2 R1 hb1 hb2 hb3 C1 C2 HA r0 r1 g2 p0 p1 p2 p3 pf hB
    obtain ⟨p0, p1, p2, p3, pf⟩ := cells4 y0
    obtain ⟨q0, q1, q2, q3, qf⟩ := cells4 y1
    go_wp2_with fail
    (try simp only [Exit.inBlock, Exit.then])
    refine bodyPost_ret (v := .agg #[.int .i64 R.id, .bool R.up, .slice o3 n3 m3, .slice o4 n4 m4]) ?_ rfl ⟨_, _, rfl, ?_, ?_, ?_⟩
    · rw [results_cell rfl]
      go_simp
    · exact rts_apart HR.out.1 y1 (set4_gr _ _ _ _ _ _)
    · exact lks_apart HR.out.2 y1 (set4_gr _ _ _ _ _ _)
    · exact set4_bl hBY (by omega) _ _ _ _
end Go.Proofs.Ytklbnnnkogghpaa.Fib
namespace Go.Proofs.Ytklbnnnkogghpaa.Fib
open Go.RowKit
open Go.Proofs.Ytklbnnnkogghpaa.Addr (Pf hiN loN RowAt below2 below_drew below_new RowAt.lt RowAt.cell RowAt.frozen RowAt.below RowAt.drew RowAt.new RowAt.alloc RowAt.set1 RowAt.far1 cells4 gset grefl bset gbelow gdrew)
open Go.Proofs.Ytklbnnnkogghpaa.Msg (Ev Ac okE FitE evV evC)
open Go.Proofs.Ytklbnnnkogghpaa.Lk (Lk HasLks HasLks.keep)
open Go.Proofs.Ytklbnnnkogghpaa.Tr (Rt HasRts HasRts.keep FitR)
theorem cells12 {W : World} {b : Nat} {a0 a1 a2 a3 a4 a5 a6 a7 a8 a9 a10 a11 : Value} {t : TypeId} (h : RowAt W b [a0, a1, a2, a3, a4, a5, a6, a7, a8, a9, a10, a11] t) :
    W.cell? ⟨b, 0, none⟩ = some a0 ∧ W.cell? ⟨b, 1, none⟩ = some a1 ∧ W.cell? ⟨b, 2, none⟩ = some a2 ∧ W.cell? ⟨b, 3, none⟩ = some a3 ∧ W.cell? ⟨b, 4, none⟩ = some a4 ∧ W.cell? ⟨b, 5, none⟩ = some a5 ∧ W.cell? ⟨b, 6, none⟩ = some a6 ∧ W.cell? ⟨b, 7, none⟩ = some a7 ∧ W.cell? ⟨b, 8, none⟩ = some a8 ∧ W.cell? ⟨b, 9, none⟩ = some a9 ∧ W.cell? ⟨b, 10, none⟩ = some a10 ∧ W.cell? ⟨b, 11, none⟩ = some a11 ∧ ∀ k, W.frozen? ⟨b, k, none⟩ = false :=
  ⟨h.cell 0, h.cell 1, h.cell 2, h.cell 3, h.cell 4, h.cell 5, h.cell 6, h.cell 7, h.cell 8, h.cell 9, h.cell 10, h.cell 11, h.frozen⟩
set_option maxHeartbeats 2000000 in
theorem misfit_any (R : Ro) (e : Ev) (B : Nat) (a b : Value) (w : World) (hr : RowAt w B [.int .i64 R.id, .bool R.up, a, b] 58) :
    Calls Try.prog 18 #[.pointer (some ⟨B, 0, none⟩), evV e] w fun x w' => x = .returned (.int .i64 (misRo R e)) ∧ Below w.heap.size w w' := by
  have HM : Hid (misRo R e = if e.router = R.id then (if decide (e.kind = 1) = R.up then 10 else 0) else 14) := rfl
  generalize misRo R e = M at HM ⊢
  obtain ⟨id, up, rts, lks⟩ := R
  obtain ⟨kind, router, seq, time, pf, act, iface, peer⟩ := e
  simp only at HM hr
  show Calls Try.prog 18 #[.pointer (some ⟨B, 0, none⟩), .agg #[.int .u8 (kind : Int), .int .i64 router, .int .u64 (seq : Int), .int .i64 time, .bool pf.six, .int .u64 (hiN pf.n : Int), .int .u64 (loN pf.n : Int), .int .i64 pf.len, .int .u8 (act.k : Int), .int .i64 act.i, .int .i64 iface, .int .i64 peer]] w _
  obtain ⟨X, hX⟩ : ∃ X, X = w.alloc (.cells #[.int .u8 (kind : Int), .int .i64 router, .int .u64 (seq : Int), .int .i64 time, .bool pf.six, .int .u64 (hiN pf.n : Int), .int .u64 (loN pf.n : Int), .int .i64 pf.len, .int .u8 (act.k : Int), .int .i64 act.i, .int .i64 iface, .int .i64 peer] 46) := ⟨_, rfl⟩
  have hB : Below w.heap.size w X := by rw [hX]; exact below_new (Below.refl _ _) _
  have r0 : RowAt X w.heap.size [.int .u8 (kind : Int), .int .i64 router, .int .u64 (seq : Int), .int .i64 time, .bool pf.six, .int .u64 (hiN pf.n : Int), .int .u64 (loN pf.n : Int), .int .i64 pf.len, .int .u8 (act.k : Int), .int .i64 act.i, .int .i64 iface, .int .i64 peer] 46 := by rw [hX]; exact RowAt.new _ _ _
  have r1 := RowAt.below hr hB
  obtain ⟨p0, p1, p2, p3, p4, p5, p6, p7, p8, p9, p10, p11, pf0⟩ := cells12 r0
  obtain ⟨q0, q1, q2, q3, qf⟩ := cells4 r1
  clear p2 p3 p4 p5 p6 p7 p8 p9 p10 p11 q2 q3
  by_cases h1 : router = id
  · obtain ⟨K, hK⟩ : ∃ K, K = decide (kind = 1) := ⟨_, rfl⟩
    have hK1 : ((kind : Int) == 1) = K := by rw [hK]; exact decide_eq_decide.2 (by omega)
    by_cases h2 : K = up
    · have HV : Hid (M = 10) := by show _ = _; rw [HM.out, if_pos h1, if_pos (by rw [← hK]; exact h2)]
      clear HM hK
      have h2b : (K == up) = true := by simp [h2]
      subst h1
      go_enter Try.func18, Try.ntmps18
      go_upto_region 1 with fail
      rw [← hX]
      clear hX
      go_region
      all_goals go_wp2_with fail
      all_goals go_region
      all_goals go_wp2_with fail
      all_goals go_ret
      all_goals exact ⟨by rw [HV.out]; rfl, by (repeat' (first | exact hB | refine Below.drew ?_))⟩
    · have HV : Hid (M = 0) := by show _ = _; rw [HM.out, if_pos h1, if_neg (by rw [← hK]; exact h2)]
      clear HM hK
      have h2b : (K == up) = false := by simp [h2]
      subst h1
      go_enter Try.func18, Try.ntmps18
      go_upto_region 1 with fail
      rw [← hX]
      clear hX
      go_region
      all_goals go_wp2_with fail
      all_goals go_region
      all_goals go_wp2_with fail
      all_goals go_ret
      all_goals exact ⟨by rw [HV.out]; rfl, by (repeat' (first | exact hB | refine Below.drew ?_))⟩
  · have HV : Hid (M = 14) := by show _ = _; rw [HM.out, if_neg h1]
    clear HM
    have h1b : (router != id) = true := by simp [h1]
    go_enter Try.func18, Try.ntmps18
    go_upto_region 1 with fail
    rw [← hX]
    clear hX
    go_region
    all_goals go_wp2_with fail
    all_goals go_ret
    all_goals exact ⟨by rw [HV.out]; rfl, by (repeat' (first | exact hB | refine Below.drew ?_))⟩
end Go.Proofs.Ytklbnnnkogghpaa.Fib
namespace Go.Proofs.Ytklbnnnkogghpaa.Fib
open Go.RowKit
open Go.Proofs.Ytklbnnnkogghpaa.Addr (Pf hiN loN RowAt below2 below_drew below_new RowAt.lt RowAt.cell RowAt.frozen RowAt.below RowAt.drew RowAt.new RowAt.alloc RowAt.set1 RowAt.far1 cells4 gset grefl bset gbelow gdrew)
open Go.Proofs.Ytklbnnnkogghpaa.Msg (Ev Ac okE FitE evV evC)
open Go.Proofs.Ytklbnnnkogghpaa.Lk (Lk HasLks HasLks.keep)
open Go.Proofs.Ytklbnnnkogghpaa.Tr (Rt HasRts HasRts.keep FitR)
/-- what take leaves: the box, its rows, and all below it as it was -/
def TakeIs (B : Nat) (w : World) (id : Int) (up : Bool) (rts : List Rt) (lks : List Lk) (why : Int) (x : Ending) (w' : World) : Prop :=
  ∃ c d, x = .returned (.int .i64 why) ∧ RowAt w' B [.int .i64 id, .bool up, c, d] 58 ∧ HasRts w' c rts ∧ HasLks w' d lks ∧ Below B w w'
theorem bl_box {B : Nat} {w W : World} (h : B ≤ w.heap.size) (hb : Below w.heap.size w W) : Below B w W := hb.mono h
set_option maxHeartbeats 4000000 in
set_option maxRecDepth 20000 in
theorem take1 (id : Int) (up : Bool) (rts : List Rt) (lks : List Lk) (router : Int) (seq : Nat) (time : Int) (pf : Pf) (act : Ac) (iface peer : Int) (B : Nat) (o2 o3 : Option Addr) (n2 n3 m2 m3 : Nat) (w : World) (hr : RowAt w B [.int .i64 id, .bool up, .slice o2 n2 m2, .slice o3 n3 m3] 58) (ha : HasRts w (.slice o2 n2 m2) rts) (hb : HasLks w (.slice o3 n3 m3) lks) :
    Calls Try.prog 19 #[.pointer (some ⟨B, 0, none⟩), .agg #[.int .u8 1, .int .i64 router, .int .u64 (seq : Int), .int .i64 time, .bool pf.six, .int .u64 (hiN pf.n : Int), .int .u64 (loN pf.n : Int), .int .i64 pf.len, .int .u8 (act.k : Int), .int .i64 act.i, .int .i64 iface, .int .i64 peer]] w (TakeIs B w id true rts lks 0) := by
  obtain ⟨X, hX⟩ : ∃ X, X = w.alloc (.cells #[.int .u8 1, .int .i64 router, .int .u64 (seq : Int), .int .i64 time, .bool pf.six, .int .u64 (hiN pf.n : Int), .int .u64 (loN pf.n : Int), .int .i64 pf.len, .int .u8 (act.k : Int), .int .i64 act.i, .int .i64 iface, .int .i64 peer] 46) := ⟨_, rfl⟩
  have hB : Below w.heap.size w X := by rw [hX]; exact below_new (Below.refl _ _) _
  have r0 : RowAt X w.heap.size [.int .u8 1, .int .i64 router, .int .u64 (seq : Int), .int .i64 time, .bool pf.six, .int .u64 (hiN pf.n : Int), .int .u64 (loN pf.n : Int), .int .i64 pf.len, .int .u8 (act.k : Int), .int .i64 act.i, .int .i64 iface, .int .i64 peer] 46 := by rw [hX]; exact RowAt.new _ _ _
  have r1 := RowAt.below hr hB
  have hlt := hr.lt
  have hXs := hB.size
  replace ha := ha.keep hB
  replace hb := hb.keep hB
  obtain ⟨p0, p1, p2, p3, p4, p5, p6, p7, p8, p9, p10, p11, pf0⟩ := cells12 r0
  obtain ⟨q0, q1, q2, q3, qf⟩ := cells4 r1
  clear p1 p2 p3 p4 p5 p6 p7 p8 p9 p10 p11
  have HF : Hid (RowAt (X.setCell ⟨B, 1, none⟩ (.bool true)) B [.int .i64 id, .bool true, .slice o2 n2 m2, .slice o3 n3 m3] 58 ∧ HasRts (X.setCell ⟨B, 1, none⟩ (.bool true)) (.slice o2 n2 m2) rts ∧ HasLks (X.setCell ⟨B, 1, none⟩ (.bool true)) (.slice o3 n3 m3) lks ∧ Below B w (X.setCell ⟨B, 1, none⟩ (.bool true))) := ⟨r1.set1 1 _, rts_apart ha r1 (gset (grefl _ _)), lks_apart hb r1 (gset (grefl _ _)), bset (bl_box (Nat.le_of_lt hlt) hB) (Nat.le_refl _)⟩
  clear r0 r1 ha hb hr hB
  go_enter Try.func19, Try.ntmps19
  go_upto_region 1 with fail
  rw [← hX]
  clear hX
  go_wp2_with fail
  go_ret
  exact ⟨_, _, rfl, HF.out⟩
set_option maxHeartbeats 4000000 in
set_option maxRecDepth 20000 in
theorem take2 (id : Int) (up : Bool) (rts : List Rt) (lks : List Lk) (router : Int) (seq : Nat) (time : Int) (pf : Pf) (act : Ac) (iface peer : Int) (B : Nat) (o2 o3 : Option Addr) (n2 n3 m2 m3 : Nat) (w : World) (hr : RowAt w B [.int .i64 id, .bool up, .slice o2 n2 m2, .slice o3 n3 m3] 58) (ha : HasRts w (.slice o2 n2 m2) rts) (hb : HasLks w (.slice o3 n3 m3) lks) :
    Calls Try.prog 19 #[.pointer (some ⟨B, 0, none⟩), .agg #[.int .u8 2, .int .i64 router, .int .u64 (seq : Int), .int .i64 time, .bool pf.six, .int .u64 (hiN pf.n : Int), .int .u64 (loN pf.n : Int), .int .i64 pf.len, .int .u8 (act.k : Int), .int .i64 act.i, .int .i64 iface, .int .i64 peer]] w (TakeIs B w id false [] [] 0) := by
  obtain ⟨X, hX⟩ : ∃ X, X = w.alloc (.cells #[.int .u8 2, .int .i64 router, .int .u64 (seq : Int), .int .i64 time, .bool pf.six, .int .u64 (hiN pf.n : Int), .int .u64 (loN pf.n : Int), .int .i64 pf.len, .int .u8 (act.k : Int), .int .i64 act.i, .int .i64 iface, .int .i64 peer] 46) := ⟨_, rfl⟩
  have hB : Below w.heap.size w X := by rw [hX]; exact below_new (Below.refl _ _) _
  have r0 : RowAt X w.heap.size [.int .u8 2, .int .i64 router, .int .u64 (seq : Int), .int .i64 time, .bool pf.six, .int .u64 (hiN pf.n : Int), .int .u64 (loN pf.n : Int), .int .i64 pf.len, .int .u8 (act.k : Int), .int .i64 act.i, .int .i64 iface, .int .i64 peer] 46 := by rw [hX]; exact RowAt.new _ _ _
  have r1 := RowAt.below hr hB
  have hlt := hr.lt
  have hXs := hB.size
  replace ha := ha.keep hB
  replace hb := hb.keep hB
  obtain ⟨p0, p1, p2, p3, p4, p5, p6, p7, p8, p9, p10, p11, pf0⟩ := cells12 r0
  obtain ⟨q0, q1, q2, q3, qf⟩ := cells4 r1
  clear p1 p2 p3 p4 p5 p6 p7 p8 p9 p10 p11
  have HF : Hid (∀ Y : World, Y = (((X.setCell ⟨B, 0, none⟩ (.int .i64 id)).setCell ⟨B, 1, none⟩ (.bool false)).setCell ⟨B, 2, none⟩ (.slice none 0 0)).setCell ⟨B, 3, none⟩ (.slice none 0 0) → RowAt Y B [.int .i64 id, .bool false, .slice none 0 0, .slice none 0 0] 58 ∧ HasRts Y (.slice none 0 0) [] ∧ HasLks Y (.slice none 0 0) [] ∧ Below B w Y) := by
    rintro Y rfl
    exact ⟨set4_row r1 _ _ _ _, Lk.hasRow_nil _ 6, Lk.hasRow_nil _ 2, set4_bl (bl_box (Nat.le_of_lt hlt) hB) (Nat.le_refl _) _ _ _ _⟩
  clear r0 r1 ha hb hr hB
  go_enter Try.func19, Try.ntmps19
  go_upto_region 1 with fail
  rw [← hX]
  clear hX
  go_wp2_with fail
  go_ret
  exact ⟨_, _, rfl, HF.out _ rfl⟩
set_option maxHeartbeats 4000000 in
set_option maxRecDepth 20000 in
theorem take7 (id : Int) (up : Bool) (rts : List Rt) (lks : List Lk) (kind : Nat) (router : Int) (seq : Nat) (time : Int) (pf : Pf) (act : Ac) (iface peer : Int) (B : Nat) (o2 o3 : Option Addr) (n2 n3 m2 m3 : Nat) (w : World) (hr : RowAt w B [.int .i64 id, .bool up, .slice o2 n2 m2, .slice o3 n3 m3] 58) (ha : HasRts w (.slice o2 n2 m2) rts) (hb : HasLks w (.slice o3 n3 m3) lks) (hk1 : ¬ kind = 1) (hk2 : ¬ kind = 2) (hk3 : ¬ kind = 3) (hk4 : ¬ kind = 4) (hk5 : ¬ kind = 5) (hk6 : ¬ kind = 6) :
    Calls Try.prog 19 #[.pointer (some ⟨B, 0, none⟩), .agg #[.int .u8 (kind : Int), .int .i64 router, .int .u64 (seq : Int), .int .i64 time, .bool pf.six, .int .u64 (hiN pf.n : Int), .int .u64 (loN pf.n : Int), .int .i64 pf.len, .int .u8 (act.k : Int), .int .i64 act.i, .int .i64 iface, .int .i64 peer]] w (TakeIs B w id up rts lks 0) := by
  obtain ⟨X, hX⟩ : ∃ X, X = w.alloc (.cells #[.int .u8 (kind : Int), .int .i64 router, .int .u64 (seq : Int), .int .i64 time, .bool pf.six, .int .u64 (hiN pf.n : Int), .int .u64 (loN pf.n : Int), .int .i64 pf.len, .int .u8 (act.k : Int), .int .i64 act.i, .int .i64 iface, .int .i64 peer] 46) := ⟨_, rfl⟩
  have hB : Below w.heap.size w X := by rw [hX]; exact below_new (Below.refl _ _) _
  have r0 : RowAt X w.heap.size [.int .u8 (kind : Int), .int .i64 router, .int .u64 (seq : Int), .int .i64 time, .bool pf.six, .int .u64 (hiN pf.n : Int), .int .u64 (loN pf.n : Int), .int .i64 pf.len, .int .u8 (act.k : Int), .int .i64 act.i, .int .i64 iface, .int .i64 peer] 46 := by rw [hX]; exact RowAt.new _ _ _
  have r1 := RowAt.below hr hB
  have hlt := hr.lt
  have hXs := hB.size
  replace ha := ha.keep hB
  replace hb := hb.keep hB
  obtain ⟨p0, p1, p2, p3, p4, p5, p6, p7, p8, p9, p10, p11, pf0⟩ := cells12 r0
  obtain ⟨q0, q1, q2, q3, qf⟩ := cells4 r1
  clear p1 p2 p3 p4 p5 p6 p7 p8 p9 p10 p11
  have HF : Hid (RowAt X B [.int .i64 id, .bool up, .slice o2 n2 m2, .slice o3 n3 m3] 58 ∧ HasRts X (.slice o2 n2 m2) rts ∧ HasLks X (.slice o3 n3 m3) lks ∧ Below B w X) := ⟨r1, ha, hb, bl_box (Nat.le_of_lt hlt) hB⟩
  clear r0 r1 ha hb hr hB
  have hq1 : ((kind : Int) == 1) = false := beq_eq_false_iff_ne.2 (by omega)
  have hq2 : ((kind : Int) == 2) = false := beq_eq_false_iff_ne.2 (by omega)
  have hq3 : ((kind : Int) == 3) = false := beq_eq_false_iff_ne.2 (by omega)
  have hq4 : ((kind : Int) == 4) = false := beq_eq_false_iff_ne.2 (by omega)
  have hq5 : ((kind : Int) == 5) = false := beq_eq_false_iff_ne.2 (by omega)
  have hq6 : ((kind : Int) == 6) = false := beq_eq_false_iff_ne.2 (by omega)
  clear hk1
  clear hk2
  clear hk3
  clear hk4
  clear hk5
  clear hk6
  go_enter Try.func19, Try.ntmps19
  go_upto_region 1 with fail
  rw [← hX]
  clear hX
  go_wp2_with fail
  go_ret
  exact ⟨_, _, rfl, HF.out⟩
set_option maxHeartbeats 4000000 in
set_option maxRecDepth 20000 in
theorem take3 (id : Int) (up : Bool) (rts : List Rt) (lks : List Lk) (router : Int) (seq : Nat) (time : Int) (pf : Pf) (act : Ac) (iface peer : Int) (B : Nat) (o2 o3 : Option Addr) (n2 n3 m2 m3 : Nat) (w : World) (hr : RowAt w B [.int .i64 id, .bool up, .slice o2 n2 m2, .slice o3 n3 m3] 58) (ha : HasRts w (.slice o2 n2 m2) rts) (hb : HasLks w (.slice o3 n3 m3) lks)
    (CC0 : ∀ W, HasRts W (.slice o2 n2 m2) rts → Calls Try.prog 32 #[.slice o2 n2 m2, .agg #[.bool pf.six, .int .u64 (hiN pf.n : Int), .int .u64 (loN pf.n : Int), .int .i64 pf.len, .int .u8 (act.k : Int), .int .i64 act.i]] W fun e w' => ∃ u, e = .returned (.tuple #[u, .int .i64 (Tr.putT rts ⟨pf, act⟩).2]) ∧ HasRts w' u (Tr.putT rts ⟨pf, act⟩).1 ∧ Below W.heap.size W w') :
    Calls Try.prog 19 #[.pointer (some ⟨B, 0, none⟩), .agg #[.int .u8 3, .int .i64 router, .int .u64 (seq : Int), .int .i64 time, .bool pf.six, .int .u64 (hiN pf.n : Int), .int .u64 (loN pf.n : Int), .int .i64 pf.len, .int .u8 (act.k : Int), .int .i64 act.i, .int .i64 iface, .int .i64 peer]] w (TakeIs B w id up (Tr.putT rts ⟨pf, act⟩).1 lks (Tr.putT rts ⟨pf, act⟩).2) := by
  obtain ⟨X, hX⟩ : ∃ X, X = w.alloc (.cells #[.int .u8 3, .int .i64 router, .int .u64 (seq : Int), .int .i64 time, .bool pf.six, .int .u64 (hiN pf.n : Int), .int .u64 (loN pf.n : Int), .int .i64 pf.len, .int .u8 (act.k : Int), .int .i64 act.i, .int .i64 iface, .int .i64 peer] 46) := ⟨_, rfl⟩
  have hB : Below w.heap.size w X := by rw [hX]; exact below_new (Below.refl _ _) _
  have r0 : RowAt X w.heap.size [.int .u8 3, .int .i64 router, .int .u64 (seq : Int), .int .i64 time, .bool pf.six, .int .u64 (hiN pf.n : Int), .int .u64 (loN pf.n : Int), .int .i64 pf.len, .int .u8 (act.k : Int), .int .i64 act.i, .int .i64 iface, .int .i64 peer] 46 := by rw [hX]; exact RowAt.new _ _ _
  have r1 := RowAt.below hr hB
  have hlt := hr.lt
  have hXs := hB.size
  replace ha := ha.keep hB
  replace hb := hb.keep hB
  obtain ⟨p0, p1, p2, p3, p4, p5, p6, p7, p8, p9, p10, p11, pf0⟩ := cells12 r0
  obtain ⟨q0, q1, q2, q3, qf⟩ := cells4 r1
  have HF : Hid (∀ (W : World) (o : Option Addr) (n m : Nat), Below X.heap.size X W → HasRts W (.slice o n m) ((Tr.putT rts ⟨pf, act⟩).1) → ∀ Y : World, Y = W.setCell ⟨B, 2, none⟩ (.slice o n m) → RowAt Y B [.int .i64 id, .bool up, .slice o n m, .slice o3 n3 m3] 58 ∧ HasRts Y (.slice o n m) (Tr.putT rts ⟨pf, act⟩).1 ∧ HasLks Y (.slice o3 n3 m3) lks ∧ Below B w Y) := by
    rintro W o n m hbW hh Y rfl
    have R1 := RowAt.below r1 hbW
    exact ⟨R1.set1 2 _, rts_apart hh R1 (gset (grefl _ _)), lks_apart (hb.keep hbW) R1 (gset (grefl _ _)), bset (bl_box (Nat.le_of_lt hlt) (below2 hB hbW)) (Nat.le_refl _)⟩
  have CC := fun (W : World) (h : Below X.heap.size X W) => CC0 W (ha.keep h)
  clear CC0
  have HR : Hid (RowAt X B [.int .i64 id, .bool up, .slice o2 n2 m2, .slice o3 n3 m3] 58) := r1
  have HE : Hid (∀ W : World, Below X.heap.size X W → W.cell? ⟨B, 2, none⟩ = some (.slice o2 n2 m2) ∧ W.frozen? ⟨B, 2, none⟩ = false) := fun W h => ⟨(RowAt.below r1 h).cell 2, (RowAt.below r1 h).frozen 2⟩
  clear r0 r1 hr
  go_enter Try.func19, Try.ntmps19
  go_upto_region 1 with fail
  rw [← hX]
  clear hX
  go_wp2_with fail
  go_region_with (first
    | (go_at_call 32
       refine (CC _ (by (repeat' (first | exact Below.refl _ _ | refine Below.drew ?_)))).mono ?_
       rintro x w1 ⟨u, rfl, hh, hb1'⟩
       have hb1 : Below X.heap.size X w1 := below2 (by (repeat' (first | exact Below.refl _ _ | refine Below.drew ?_))) hb1'
       obtain ⟨o, c, rfl, _⟩ := Lk.HasRow.slice hh
       obtain ⟨z1, z2⟩ := HE.out _ hb1))
  all_goals go_wp2_with fail
  all_goals go_ret
  all_goals exact ⟨_, _, rfl, (HF.out _ _ _ _ hb1 hh _ rfl).1, (HF.out _ _ _ _ hb1 hh _ rfl).2⟩
end Go.Proofs.Ytklbnnnkogghpaa.Fib
namespace Go.Proofs.Ytklbnnnkogghpaa.Fib
open Go.RowKit
open Go.Proofs.Ytklbnnnkogghpaa.Addr (Pf hiN loN RowAt below2 below_drew below_new RowAt.lt RowAt.cell RowAt.frozen RowAt.below RowAt.drew RowAt.new RowAt.alloc RowAt.set1 RowAt.far1 cells4 gset grefl bset gbelow gdrew)
open Go.Proofs.Ytklbnnnkogghpaa.Msg (Ev Ac okE FitE evV evC)
open Go.Proofs.Ytklbnnnkogghpaa.Lk (Lk HasLks HasLks.keep)
open Go.Proofs.Ytklbnnnkogghpaa.Tr (Rt HasRts HasRts.keep FitR)
set_option maxHeartbeats 4000000 in
set_option maxRecDepth 20000 in
theorem take4 (id : Int) (up : Bool) (rts : List Rt) (lks : List Lk) (router : Int) (seq : Nat) (time : Int) (pf : Pf) (act : Ac) (iface peer : Int) (B : Nat) (o2 o3 : Option Addr) (n2 n3 m2 m3 : Nat) (w : World) (hr : RowAt w B [.int .i64 id, .bool up, .slice o2 n2 m2, .slice o3 n3 m3] 58) (ha : HasRts w (.slice o2 n2 m2) rts) (hb : HasLks w (.slice o3 n3 m3) lks)
    (CC0 : ∀ W, HasRts W (.slice o2 n2 m2) rts → Calls Try.prog 36 #[.slice o2 n2 m2, .agg #[.bool pf.six, .int .u64 (hiN pf.n : Int), .int .u64 (loN pf.n : Int), .int .i64 pf.len]] W fun e w' => ∃ u, e = .returned (.tuple #[u, .int .i64 (Tr.delT rts pf).2]) ∧ HasRts w' u (Tr.delT rts pf).1 ∧ Below W.heap.size W w') :
    Calls Try.prog 19 #[.pointer (some ⟨B, 0, none⟩), .agg #[.int .u8 4, .int .i64 router, .int .u64 (seq : Int), .int .i64 time, .bool pf.six, .int .u64 (hiN pf.n : Int), .int .u64 (loN pf.n : Int), .int .i64 pf.len, .int .u8 (act.k : Int), .int .i64 act.i, .int .i64 iface, .int .i64 peer]] w (TakeIs B w id up (Tr.delT rts pf).1 lks 0) := by
  obtain ⟨X, hX⟩ : ∃ X, X = w.alloc (.cells #[.int .u8 4, .int .i64 router, .int .u64 (seq : Int), .int .i64 time, .bool pf.six, .int .u64 (hiN pf.n : Int), .int .u64 (loN pf.n : Int), .int .i64 pf.len, .int .u8 (act.k : Int), .int .i64 act.i, .int .i64 iface, .int .i64 peer] 46) := ⟨_, rfl⟩
  have hB : Below w.heap.size w X := by rw [hX]; exact below_new (Below.refl _ _) _
  have r0 : RowAt X w.heap.size [.int .u8 4, .int .i64 router, .int .u64 (seq : Int), .int .i64 time, .bool pf.six, .int .u64 (hiN pf.n : Int), .int .u64 (loN pf.n : Int), .int .i64 pf.len, .int .u8 (act.k : Int), .int .i64 act.i, .int .i64 iface, .int .i64 peer] 46 := by rw [hX]; exact RowAt.new _ _ _
  have r1 := RowAt.below hr hB
  have hlt := hr.lt
  have hXs := hB.size
  replace ha := ha.keep hB
  replace hb := hb.keep hB
  obtain ⟨p0, p1, p2, p3, p4, p5, p6, p7, p8, p9, p10, p11, pf0⟩ := cells12 r0
  obtain ⟨q0, q1, q2, q3, qf⟩ := cells4 r1
  have HF : Hid (∀ (W : World) (o : Option Addr) (n m : Nat), Below X.heap.size X W → HasRts W (.slice o n m) ((Tr.delT rts pf).1) → ∀ Y : World, Y = W.setCell ⟨B, 2, none⟩ (.slice o n m) → RowAt Y B [.int .i64 id, .bool up, .slice o n m, .slice o3 n3 m3] 58 ∧ HasRts Y (.slice o n m) (Tr.delT rts pf).1 ∧ HasLks Y (.slice o3 n3 m3) lks ∧ Below B w Y) := by
    rintro W o n m hbW hh Y rfl
    have R1 := RowAt.below r1 hbW
    exact ⟨R1.set1 2 _, rts_apart hh R1 (gset (grefl _ _)), lks_apart (hb.keep hbW) R1 (gset (grefl _ _)), bset (bl_box (Nat.le_of_lt hlt) (below2 hB hbW)) (Nat.le_refl _)⟩
  have CC := fun (W : World) (h : Below X.heap.size X W) => CC0 W (ha.keep h)
  clear CC0
  have HR : Hid (RowAt X B [.int .i64 id, .bool up, .slice o2 n2 m2, .slice o3 n3 m3] 58) := r1
  have HE : Hid (∀ W : World, Below X.heap.size X W → W.cell? ⟨B, 2, none⟩ = some (.slice o2 n2 m2) ∧ W.frozen? ⟨B, 2, none⟩ = false) := fun W h => ⟨(RowAt.below r1 h).cell 2, (RowAt.below r1 h).frozen 2⟩
  clear r0 r1 hr
  go_enter Try.func19, Try.ntmps19
  go_upto_region 1 with fail
  rw [← hX]
  clear hX
  go_wp2_with fail
  go_region_with (first
    | (go_at_call 36
       refine (CC _ (by (repeat' (first | exact Below.refl _ _ | refine Below.drew ?_)))).mono ?_
       rintro x w1 ⟨u, rfl, hh, hb1'⟩
       have hb1 : Below X.heap.size X w1 := below2 (by (repeat' (first | exact Below.refl _ _ | refine Below.drew ?_))) hb1'
       obtain ⟨o, c, rfl, _⟩ := Lk.HasRow.slice hh
       obtain ⟨z1, z2⟩ := HE.out _ hb1))
  all_goals go_wp2_with fail
  all_goals go_ret
  all_goals exact ⟨_, _, rfl, (HF.out _ _ _ _ hb1 hh _ rfl).1, (HF.out _ _ _ _ hb1 hh _ rfl).2⟩
end Go.Proofs.Ytklbnnnkogghpaa.Fib
namespace Go.Proofs.Ytklbnnnkogghpaa.Fib
open Go.RowKit
open Go.Proofs.Ytklbnnnkogghpaa.Addr (Pf hiN loN RowAt below2 below_drew below_new RowAt.lt RowAt.cell RowAt.frozen RowAt.below RowAt.drew RowAt.new RowAt.alloc RowAt.set1 RowAt.far1 cells4 gset grefl bset gbelow gdrew)
open Go.Proofs.Ytklbnnnkogghpaa.Msg (Ev Ac okE FitE evV evC)
open Go.Proofs.Ytklbnnnkogghpaa.Lk (Lk HasLks HasLks.keep)
open Go.Proofs.Ytklbnnnkogghpaa.Tr (Rt HasRts HasRts.keep FitR)
set_option maxHeartbeats 4000000 in
set_option maxRecDepth 20000 in
theorem take5 (id : Int) (up : Bool) (rts : List Rt) (lks : List Lk) (router : Int) (seq : Nat) (time : Int) (pf : Pf) (act : Ac) (iface peer : Int) (B : Nat) (o2 o3 : Option Addr) (n2 n3 m2 m3 : Nat) (w : World) (hr : RowAt w B [.int .i64 id, .bool up, .slice o2 n2 m2, .slice o3 n3 m3] 58) (ha : HasRts w (.slice o2 n2 m2) rts) (hb : HasLks w (.slice o3 n3 m3) lks)
    (CC0 : ∀ W, HasLks W (.slice o3 n3 m3) lks → Calls Try.prog 37 #[.slice o3 n3 m3, .agg #[.int .i64 iface, .int .i64 peer]] W fun e w' => ∃ u, e = .returned (.tuple #[u, .int .i64 (Lk.putL lks ⟨iface, peer⟩).2]) ∧ HasLks w' u (Lk.putL lks ⟨iface, peer⟩).1 ∧ Below W.heap.size W w') :
    Calls Try.prog 19 #[.pointer (some ⟨B, 0, none⟩), .agg #[.int .u8 5, .int .i64 router, .int .u64 (seq : Int), .int .i64 time, .bool pf.six, .int .u64 (hiN pf.n : Int), .int .u64 (loN pf.n : Int), .int .i64 pf.len, .int .u8 (act.k : Int), .int .i64 act.i, .int .i64 iface, .int .i64 peer]] w (TakeIs B w id up rts (Lk.putL lks ⟨iface, peer⟩).1 (Lk.putL lks ⟨iface, peer⟩).2) := by
  obtain ⟨X, hX⟩ : ∃ X, X = w.alloc (.cells #[.int .u8 5, .int .i64 router, .int .u64 (seq : Int), .int .i64 time, .bool pf.six, .int .u64 (hiN pf.n : Int), .int .u64 (loN pf.n : Int), .int .i64 pf.len, .int .u8 (act.k : Int), .int .i64 act.i, .int .i64 iface, .int .i64 peer] 46) := ⟨_, rfl⟩
  have hB : Below w.heap.size w X := by rw [hX]; exact below_new (Below.refl _ _) _
  have r0 : RowAt X w.heap.size [.int .u8 5, .int .i64 router, .int .u64 (seq : Int), .int .i64 time, .bool pf.six, .int .u64 (hiN pf.n : Int), .int .u64 (loN pf.n : Int), .int .i64 pf.len, .int .u8 (act.k : Int), .int .i64 act.i, .int .i64 iface, .int .i64 peer] 46 := by rw [hX]; exact RowAt.new _ _ _
  have r1 := RowAt.below hr hB
  have hlt := hr.lt
  have hXs := hB.size
  replace ha := ha.keep hB
  replace hb := hb.keep hB
  obtain ⟨p0, p1, p2, p3, p4, p5, p6, p7, p8, p9, p10, p11, pf0⟩ := cells12 r0
  obtain ⟨q0, q1, q2, q3, qf⟩ := cells4 r1
  have HF : Hid (∀ (W : World) (o : Option Addr) (n m : Nat), Below X.heap.size X W → HasLks W (.slice o n m) ((Lk.putL lks ⟨iface, peer⟩).1) → ∀ Y : World, Y = W.setCell ⟨B, 3, none⟩ (.slice o n m) → RowAt Y B [.int .i64 id, .bool up, .slice o2 n2 m2, .slice o n m] 58 ∧ HasRts Y (.slice o2 n2 m2) rts ∧ HasLks Y (.slice o n m) (Lk.putL lks ⟨iface, peer⟩).1 ∧ Below B w Y) := by
    rintro W o n m hbW hh Y rfl
    have R1 := RowAt.below r1 hbW
    exact ⟨R1.set1 3 _, rts_apart (ha.keep hbW) R1 (gset (grefl _ _)), lks_apart hh R1 (gset (grefl _ _)), bset (bl_box (Nat.le_of_lt hlt) (below2 hB hbW)) (Nat.le_refl _)⟩
  have CC := fun (W : World) (h : Below X.heap.size X W) => CC0 W (hb.keep h)
  clear CC0
  have HR : Hid (RowAt X B [.int .i64 id, .bool up, .slice o2 n2 m2, .slice o3 n3 m3] 58) := r1
  have HE : Hid (∀ W : World, Below X.heap.size X W → W.cell? ⟨B, 3, none⟩ = some (.slice o3 n3 m3) ∧ W.frozen? ⟨B, 3, none⟩ = false) := fun W h => ⟨(RowAt.below r1 h).cell 3, (RowAt.below r1 h).frozen 3⟩
  clear r0 r1 hr
  go_enter Try.func19, Try.ntmps19
  go_upto_region 1 with fail
  rw [← hX]
  clear hX
  go_wp2_with fail
  go_region_with (first
    | (go_at_call 37
       refine (CC _ (by (repeat' (first | exact Below.refl _ _ | refine Below.drew ?_)))).mono ?_
       rintro x w1 ⟨u, rfl, hh, hb1'⟩
       have hb1 : Below X.heap.size X w1 := below2 (by (repeat' (first | exact Below.refl _ _ | refine Below.drew ?_))) hb1'
       obtain ⟨o, c, rfl, _⟩ := Lk.HasRow.slice hh
       obtain ⟨z1, z2⟩ := HE.out _ hb1))
  all_goals go_wp2_with fail
  all_goals go_ret
  all_goals exact ⟨_, _, rfl, (HF.out _ _ _ _ hb1 hh _ rfl).1, (HF.out _ _ _ _ hb1 hh _ rfl).2⟩
set_option maxHeartbeats 4000000 in
set_option maxRecDepth 20000 in
theorem take6 (id : Int) (up : Bool) (rts : List Rt) (lks : List Lk) (router : Int) (seq : Nat) (time : Int) (pf : Pf) (act : Ac) (iface peer : Int) (B : Nat) (o2 o3 : Option Addr) (n2 n3 m2 m3 : Nat) (w : World) (hr : RowAt w B [.int .i64 id, .bool up, .slice o2 n2 m2, .slice o3 n3 m3] 58) (ha : HasRts w (.slice o2 n2 m2) rts) (hb : HasLks w (.slice o3 n3 m3) lks)
    (CC0 : ∀ W, HasLks W (.slice o3 n3 m3) lks → Calls Try.prog 38 #[.slice o3 n3 m3, .int .i64 iface] W fun e w' => ∃ u, e = .returned (.tuple #[u, .int .i64 (Lk.delL lks iface).2]) ∧ HasLks w' u (Lk.delL lks iface).1 ∧ Below W.heap.size W w') :
    Calls Try.prog 19 #[.pointer (some ⟨B, 0, none⟩), .agg #[.int .u8 6, .int .i64 router, .int .u64 (seq : Int), .int .i64 time, .bool pf.six, .int .u64 (hiN pf.n : Int), .int .u64 (loN pf.n : Int), .int .i64 pf.len, .int .u8 (act.k : Int), .int .i64 act.i, .int .i64 iface, .int .i64 peer]] w (TakeIs B w id up rts (Lk.delL lks iface).1 0) := by
  obtain ⟨X, hX⟩ : ∃ X, X = w.alloc (.cells #[.int .u8 6, .int .i64 router, .int .u64 (seq : Int), .int .i64 time, .bool pf.six, .int .u64 (hiN pf.n : Int), .int .u64 (loN pf.n : Int), .int .i64 pf.len, .int .u8 (act.k : Int), .int .i64 act.i, .int .i64 iface, .int .i64 peer] 46) := ⟨_, rfl⟩
  have hB : Below w.heap.size w X := by rw [hX]; exact below_new (Below.refl _ _) _
  have r0 : RowAt X w.heap.size [.int .u8 6, .int .i64 router, .int .u64 (seq : Int), .int .i64 time, .bool pf.six, .int .u64 (hiN pf.n : Int), .int .u64 (loN pf.n : Int), .int .i64 pf.len, .int .u8 (act.k : Int), .int .i64 act.i, .int .i64 iface, .int .i64 peer] 46 := by rw [hX]; exact RowAt.new _ _ _
  have r1 := RowAt.below hr hB
  have hlt := hr.lt
  have hXs := hB.size
  replace ha := ha.keep hB
  replace hb := hb.keep hB
  obtain ⟨p0, p1, p2, p3, p4, p5, p6, p7, p8, p9, p10, p11, pf0⟩ := cells12 r0
  obtain ⟨q0, q1, q2, q3, qf⟩ := cells4 r1
  have HF : Hid (∀ (W : World) (o : Option Addr) (n m : Nat), Below X.heap.size X W → HasLks W (.slice o n m) ((Lk.delL lks iface).1) → ∀ Y : World, Y = W.setCell ⟨B, 3, none⟩ (.slice o n m) → RowAt Y B [.int .i64 id, .bool up, .slice o2 n2 m2, .slice o n m] 58 ∧ HasRts Y (.slice o2 n2 m2) rts ∧ HasLks Y (.slice o n m) (Lk.delL lks iface).1 ∧ Below B w Y) := by
    rintro W o n m hbW hh Y rfl
    have R1 := RowAt.below r1 hbW
    exact ⟨R1.set1 3 _, rts_apart (ha.keep hbW) R1 (gset (grefl _ _)), lks_apart hh R1 (gset (grefl _ _)), bset (bl_box (Nat.le_of_lt hlt) (below2 hB hbW)) (Nat.le_refl _)⟩
  have CC := fun (W : World) (h : Below X.heap.size X W) => CC0 W (hb.keep h)
  clear CC0
  have HR : Hid (RowAt X B [.int .i64 id, .bool up, .slice o2 n2 m2, .slice o3 n3 m3] 58) := r1
  have HE : Hid (∀ W : World, Below X.heap.size X W → W.cell? ⟨B, 3, none⟩ = some (.slice o3 n3 m3) ∧ W.frozen? ⟨B, 3, none⟩ = false) := fun W h => ⟨(RowAt.below r1 h).cell 3, (RowAt.below r1 h).frozen 3⟩
  clear r0 r1 hr
  go_enter Try.func19, Try.ntmps19
  go_upto_region 1 with fail
  rw [← hX]
  clear hX
  go_wp2_with fail
  go_region_with (first
    | (go_at_call 38
       refine (CC _ (by (repeat' (first | exact Below.refl _ _ | refine Below.drew ?_)))).mono ?_
       rintro x w1 ⟨u, rfl, hh, hb1'⟩
       have hb1 : Below X.heap.size X w1 := below2 (by (repeat' (first | exact Below.refl _ _ | refine Below.drew ?_))) hb1'
       obtain ⟨o, c, rfl, _⟩ := Lk.HasRow.slice hh
       obtain ⟨z1, z2⟩ := HE.out _ hb1))
  all_goals go_wp2_with fail
  all_goals go_ret
  all_goals exact ⟨_, _, rfl, (HF.out _ _ _ _ hb1 hh _ rfl).1, (HF.out _ _ _ _ hb1 hh _ rfl).2⟩
end Go.Proofs.Ytklbnnnkogghpaa.Fib
namespace Go.Proofs.Ytklbnnnkogghpaa.Fib
open Go.RowKit
open Go.Proofs.Ytklbnnnkogghpaa.Addr (Pf hiN loN RowAt below2 below_drew below_new RowAt.lt RowAt.cell RowAt.frozen RowAt.below RowAt.drew RowAt.new RowAt.alloc RowAt.set1 RowAt.far1 cells4 gset grefl bset gbelow gdrew)
open Go.Proofs.Ytklbnnnkogghpaa.Msg (Ev Ac okE FitE evV evC)
open Go.Proofs.Ytklbnnnkogghpaa.Lk (Lk HasLks HasLks.keep)
open Go.Proofs.Ytklbnnnkogghpaa.Tr (Rt HasRts HasRts.keep FitR)
theorem take_any (R : Ro) (e : Ev) (B : Nat) (a b : Value) (w : World) (hr : RowAt w B [.int .i64 R.id, .bool R.up, a, b] 58) (ha : HasRts w a R.rts) (hb : HasLks w b R.lks) (hf : ∀ x ∈ R.rts, FitR x) (he : FitE e) :
    Calls Try.prog 19 #[.pointer (some ⟨B, 0, none⟩), evV e] w (TakeIs B w (takeRo R e).1.id (takeRo R e).1.up (takeRo R e).1.rts (takeRo R e).1.lks (takeRo R e).2) := by
  obtain ⟨o2, m2, rfl, _⟩ := Lk.HasRow.slice ha
  obtain ⟨o3, m3, rfl, _⟩ := Lk.HasRow.slice hb
  obtain ⟨id, up, rts, lks⟩ := R
  have h3 : FitR ⟨e.pf, e.act⟩ := ⟨⟨he.len, he.n⟩, he.act⟩
  have h4 : Tr.FitP e.pf := ⟨he.len, he.n⟩
  obtain ⟨kind, router, seq, time, pf, act, iface, peer⟩ := e
  simp only at hr ha hb hf h3 h4
  unfold takeRo
  simp only
  by_cases k1 : kind = 1
  · subst k1
    exact take1 id up rts lks router seq time pf act iface peer B o2 o3 _ _ m2 m3 w hr ha hb
  rw [if_neg k1]
  by_cases k2 : kind = 2
  · subst k2
    exact take2 id up rts lks router seq time pf act iface peer B o2 o3 _ _ m2 m3 w hr ha hb
  rw [if_neg k2]
  by_cases k3 : kind = 3
  · subst k3
    exact take3 id up rts lks router seq time pf act iface peer B o2 o3 _ _ m2 m3 w hr ha hb (fun W hW => Tr.put_any rts _ ⟨pf, act⟩ W hW hf h3)
  rw [if_neg k3]
  by_cases k4 : kind = 4
  · subst k4
    exact take4 id up rts lks router seq time pf act iface peer B o2 o3 _ _ m2 m3 w hr ha hb (fun W hW => Tr.del_any rts _ pf W hW hf h4)
  rw [if_neg k4]
  by_cases k5 : kind = 5
  · subst k5
    exact take5 id up rts lks router seq time pf act iface peer B o2 o3 _ _ m2 m3 w hr ha hb (fun W hW => Lk.put_any lks _ ⟨iface, peer⟩ W hW)
  rw [if_neg k5]
  by_cases k6 : kind = 6
  · subst k6
    exact take6 id up rts lks router seq time pf act iface peer B o2 o3 _ _ m2 m3 w hr ha hb (fun W hW => Lk.del_any lks _ iface W hW)
  rw [if_neg k6]
  exact take7 id up rts lks kind router seq time pf act iface peer B o2 o3 _ _ m2 m3 w hr ha hb k1 k2 k3 k4 k5 k6
end Go.Proofs.Ytklbnnnkogghpaa.Fib
namespace Go.Proofs.Ytklbnnnkogghpaa.Fib
open Go.RowKit
open Go.Proofs.Ytklbnnnkogghpaa.Addr (hiN loN RowAt below2 below_drew below_new RowAt.lt RowAt.cell RowAt.frozen RowAt.below RowAt.drew RowAt.new RowAt.alloc cells4)
open Go.Proofs.Ytklbnnnkogghpaa.Lk (Lk HasLks HasLks.keep okL checkL FitL)
open Go.Proofs.Ytklbnnnkogghpaa.Tr (Rt HasRts HasRts.keep okT checkT FitR)
theorem mayBe_any (i : Int) (w : World) : Calls Try.prog 16 #[.int .i64 i] w fun e w' => e = .returned (.bool (okId i)) ∧ Below w.heap.size w w' := by
  have HD : Hid (okId i = (decide (0 ≤ i) && decide (i ≤ 1048576))) := rfl
  rw [HD.out]
  by_cases h1 : 0 ≤ i
  · by_cases h2 : i ≤ 1048576
    · have e : (decide (0 ≤ i) && decide (i ≤ 1048576)) = true := by simp [h1, h2]
      rw [e]
      go_enter Try.func16, Try.ntmps16
      go_wp2_with fail
      go_ret
      exact ⟨rfl, Below.refl _ _⟩
    · have e : (decide (0 ≤ i) && decide (i ≤ 1048576)) = false := by simp [h1, h2]
      rw [e]
      go_enter Try.func16, Try.ntmps16
      go_wp2_with fail
      go_ret
      exact ⟨rfl, Below.refl _ _⟩
  · have e : (decide (0 ≤ i) && decide (i ≤ 1048576)) = false := by simp [h1]
    rw [e]
    go_enter Try.func16, Try.ntmps16
    go_wp2_with fail
    go_ret
    exact ⟨rfl, Below.refl _ _⟩
theorem size_any (R : Ro) (a b : Value) (w : World) (ha : HasRts w a R.rts) (hb : HasLks w b R.lks) (h1 : R.rts.length ≤ 1000) (h2 : R.lks.length ≤ 1000) :
    Calls Try.prog 23 #[.agg #[.int .i64 R.id, .bool R.up, a, b]] w fun e w' => e = .returned (.int .i64 ((R.rts.length + R.lks.length : Nat) : Int)) ∧ Below w.heap.size w w' := by
  obtain ⟨oa, ca, rfl, hc1, hc2⟩ := Lk.HasRow.slice ha
  obtain ⟨ob, cb, rfl, hc3, hc4⟩ := Lk.HasRow.slice hb
  clear ha hb
  obtain ⟨X, hX⟩ : ∃ X, X = w.alloc (.cells #[.int .i64 R.id, .bool R.up, .slice oa R.rts.length ca, .slice ob R.lks.length cb] 25) := ⟨_, rfl⟩
  have hB : Below w.heap.size w X := by rw [hX]; exact below_new (Below.refl _ _) _
  have r0 : RowAt X w.heap.size [.int .i64 R.id, .bool R.up, .slice oa R.rts.length ca, .slice ob R.lks.length cb] 25 := by rw [hX]; exact RowAt.new _ _ _
  have hcast : ((R.rts.length + R.lks.length : Nat) : Int) = (R.rts.length : Int) + (R.lks.length : Int) := by omega
  rw [hcast]
  generalize R.rts.length = n at *
  generalize R.lks.length = m at *
  have hw : IntKind.i64.wrap ((n : Int) + (m : Int)) = (n : Int) + (m : Int) := by rw [IntKind.wrap_i64]; omega
  go_enter Try.func23, Try.ntmps23
  go_upto_region 1 with fail
  rw [← hX]
  clear hX
  obtain ⟨p0, p1, p2, p3, pf⟩ := cells4 r0
  go_wp2_with fail
  go_ret
  exact ⟨rfl, hB⟩
set_option maxHeartbeats 2000000 in
theorem check_any (R : Ro) (a b : Value) (w : World) (ha : HasRts w a R.rts) (hb : HasLks w b R.lks) (hf : ∀ x ∈ R.rts, FitR x) :
    Calls Try.prog 12 #[.agg #[.int .i64 R.id, .bool R.up, a, b]] w fun e w' => e = .returned (.int .i64 (checkRo R)) ∧ Below w.heap.size w w' := by
  have c0 := fun W => mayBe_any R.id W
  have c1 := fun W (h : HasRts W a R.rts) => Tr.check_any R.rts a W h hf
  have c2 := fun W (h : HasLks W b R.lks) => Lk.check_any R.lks b W h
  have c3 := fun W (h : HasRts W a R.rts) (h' : HasLks W b R.lks) h1 h2 => size_any R a b W h h' h1 h2
  have hT : okT R.rts = true → R.rts.length ≤ 256 := fun h => ((Tr.okT_iff _).1 h).1
  have hL : okL R.lks = true → R.lks.length ≤ 32 := fun h => Lk.okL_len2 h
  have e1 : checkT R.rts = if okT R.rts then 0 else 2 := rfl
  have e2 : checkL R.lks = if okL R.lks then 0 else 2 := rfl
  have e3 : checkRo R = if okId R.id && okT R.rts && okL R.lks && (R.up || decide (R.rts.length + R.lks.length = 0)) then 0 else 2 := rfl
  rw [e1] at c1
  rw [e2] at c2
  obtain ⟨C, hC⟩ : ∃ C, C = checkRo R := ⟨_, rfl⟩
  rw [← hC]
  have HC : Hid (C = if okId R.id && okT R.rts && okL R.lks && (R.up || decide (R.rts.length + R.lks.length = 0)) then 0 else 2) := hC.trans e3
  clear e1 e2 e3 hC
  obtain ⟨X, hX⟩ : ∃ X, X = w.alloc (.cells #[.int .i64 R.id, .bool R.up, a, b] 25) := ⟨_, rfl⟩
  have hB : Below w.heap.size w X := by rw [hX]; exact below_new (Below.refl _ _) _
  have r0 : RowAt X w.heap.size [.int .i64 R.id, .bool R.up, a, b] 25 := by rw [hX]; exact RowAt.new _ _ _
  have oa : a.oneCell' = true := by obtain ⟨o, c, rfl, _⟩ := Lk.HasRow.slice ha; rfl
  have ob : b.oneCell' = true := by obtain ⟨o, c, rfl, _⟩ := Lk.HasRow.slice hb; rfl
  obtain ⟨o1, n1, m1, rfl⟩ : ∃ o n m, a = .slice o n m := by obtain ⟨o, c, rfl, _⟩ := Lk.HasRow.slice ha; exact ⟨_, _, _, rfl⟩
  obtain ⟨o2, n2, m2, rfl⟩ : ∃ o n m, b = .slice o n m := by obtain ⟨o, c, rfl, _⟩ := Lk.HasRow.slice hb; exact ⟨_, _, _, rfl⟩
  clear oa ob
  go_enter Try.func12, Try.ntmps12
  go_upto_region 1 with fail
  rw [← hX]
  clear hX
  replace ha := ha.keep hB
  replace hb := hb.keep hB
  obtain ⟨p0, p1, p2, p3, pf⟩ := cells4 r0
  go_wp2_with fail
  clear p0 p1 p2 p3 pf
  go_at_call 16; refine (c0 _).mono ?_; rintro e w1 ⟨rfl, hb1⟩
  replace hB := below2 hB hb1
  replace ha := ha.keep hb1
  replace hb := hb.keep hb1
  replace r0 := RowAt.below r0 hb1
  clear hb1 c0
  cases hI : okId R.id
  · go_wp2_with fail
    go_ret
    exact ⟨by rw [HC.out, hI]; rfl, hB⟩
  obtain ⟨p0, p1, p2, p3, pf⟩ := cells4 r0
  go_wp2_with fail
  clear p0 p1 p2 p3 pf
  go_at_call 24; refine (c1 _ ha).mono ?_; rintro e w2 ⟨rfl, hb2⟩
  replace hB := below2 hB hb2
  replace ha := ha.keep hb2
  replace hb := hb.keep hb2
  replace r0 := RowAt.below r0 hb2
  clear hb2 c1
  cases hKT : okT R.rts
  · go_wp2_with fail
    go_ret
    exact ⟨by rw [HC.out, hI, hKT]; rfl, hB⟩
  replace hT := hT hKT
  obtain ⟨p0, p1, p2, p3, pf⟩ := cells4 r0
  go_wp2_with fail
  clear p0 p1 p2 p3 pf
  go_at_call 25; refine (c2 _ hb).mono ?_; rintro e w3 ⟨rfl, hb3⟩
  replace hB := below2 hB hb3
  replace ha := ha.keep hb3
  replace hb := hb.keep hb3
  replace r0 := RowAt.below r0 hb3
  clear hb3 c2
  cases hKL : okL R.lks
  · go_wp2_with fail
    go_ret
    exact ⟨by rw [HC.out, hI, hKT, hKL]; rfl, hB⟩
  replace hL := hL hKL
  obtain ⟨p0, p1, p2, p3, pf⟩ := cells4 r0
  cases hU : R.up
  · rw [hU] at p1 c3
    go_wp2_with fail
    clear p0 p1 p2 p3 pf
    go_at_call 23; refine (c3 _ ha hb (by omega) (by omega)).mono ?_; rintro e w4 ⟨rfl, hb4⟩
    replace hB := below2 hB hb4
    clear ha hb
    by_cases hs : R.rts.length + R.lks.length = 0
    · have HV : Hid (C = 0) := by show _ = _; rw [HC.out, hI, hKT, hKL, hU, hs]; rfl
      rw [hs]
      go_wp2_with fail
      go_ret
      exact ⟨by rw [HV.out]; rfl, hB⟩
    · have hs2 : decide (R.rts.length + R.lks.length = 0) = false := by simpa using hs
      have HV : Hid (C = 2) := by show _ = _; rw [HC.out, hI, hKT, hKL, hU, hs2]; rfl
      clear HC
      generalize R.rts.length + R.lks.length = s at *
      have hs1 : ((s : Int) > 0) := by omega
      go_wp2_with fail
      go_ret
      exact ⟨by rw [HV.out]; rfl, hB⟩
  · rw [hU] at p1
    go_wp2_with fail
    go_ret
    exact ⟨by rw [HC.out, hI, hKT, hKL, hU]; rfl, hB⟩
end Go.Proofs.Ytklbnnnkogghpaa.Fib
namespace Go.Proofs.Ytklbnnnkogghpaa.Fib
open Go.RowKit
open Go.Proofs.Ytklbnnnkogghpaa.Addr (Pf hiN loN RowAt below2 below_drew below_new RowAt.lt RowAt.cell RowAt.frozen RowAt.below RowAt.drew RowAt.new RowAt.alloc RowAt.set1 RowAt.far1 cells4 gset grefl bset gbelow gdrew RowAt.gkeep)
open Go.Proofs.Ytklbnnnkogghpaa.Msg (Ev Ac okE FitE evV evC checkE)
open Go.Proofs.Ytklbnnnkogghpaa.Lk (Lk HasLks HasLks.keep FitL)
open Go.Proofs.Ytklbnnnkogghpaa.Tr (Rt HasRts HasRts.keep FitR)
/-- a router is answered, with an error -/
def RoIs (R : Ro) (why : Int) (w : World) (e : Ending) (w' : World) : Prop :=
  ∃ o2 n2 m2 o3 n3 m3, e = .returned (.tuple #[.agg #[.int .i64 R.id, .bool R.up, .slice o2 n2 m2, .slice o3 n3 m3], .int .i64 why]) ∧ HasRts w' (.slice o2 n2 m2) R.rts ∧ HasLks w' (.slice o3 n3 m3) R.lks ∧ Below w.heap.size w w'
theorem ro_nil (w : World) : HasRts w (.slice none 0 0) [] ∧ HasLks w (.slice none 0 0) [] := ⟨Lk.hasRow_nil _ 6, Lk.hasRow_nil _ 2⟩
set_option maxHeartbeats 4000000 in
set_option maxRecDepth 20000 in
theorem apply_any (R : Ro) (e : Ev) (a b : Value) (w : World) (ha : HasRts w a R.rts) (hb : HasLks w b R.lks) (hf : FitRo R) (he : FitE e) :
    Calls Try.prog 9 #[.agg #[.int .i64 R.id, .bool R.up, a, b], evV e] w (RoIs (applyRo R e).1 (applyRo R e).2 w) := by
  obtain ⟨o2, m2, rfl, _⟩ := Lk.HasRow.slice ha
  obtain ⟨o3, m3, rfl, _⟩ := Lk.HasRow.slice hb
  have cC := fun W (h : HasRts W (.slice o2 R.rts.length m2) R.rts) (h' : HasLks W (.slice o3 R.lks.length m3) R.lks) => check_any R _ _ W h h' hf.rts
  have cM := fun W => Msg.echeck_any e W he
  have cF := fun W (h : HasRts W (.slice o2 R.rts.length m2) R.rts) (h' : HasLks W (.slice o3 R.lks.length m3) R.lks) h1 h2 => fresh_any R _ _ W h h' h1 h2
  have cX := fun W B c d (hr : RowAt W B [.int .i64 R.id, .bool R.up, c, d] 58) => misfit_any R e B c d W hr
  have cT := fun W B c d (hr : RowAt W B [.int .i64 R.id, .bool R.up, c, d] 58) (h : HasRts W c R.rts) (h' : HasLks W d R.lks) => take_any R e B c d W hr h h' hf.rts he
  have hck : checkRo R = if okRo R then 0 else 2 := rfl
  have hce : checkE e = if okE e then 0 else 2 := rfl
  rw [hck] at cC
  rw [hce] at cM
  clear hck hce
  have hl : okRo R = true → R.rts.length ≤ 1000 ∧ R.lks.length ≤ 1000 := fun h => by have := okRo_parts h; omega
  have hA : applyRo R e = if okRo R && okE e then (if misRo R e = 0 then takeRo R e else (R, misRo R e)) else (zeroRo, 2) := rfl
  generalize applyRo R e = A at hA ⊢
  generalize takeRo R e = T at hA cT
  generalize misRo R e = M at hA cX
  generalize okE e = ke at hA cM
  generalize okRo R = kr at hA cC hl
  obtain ⟨id, up, rts, lks⟩ := R
  obtain ⟨kind, router, seq, time, pf, act, iface, peer⟩ := e
  simp only at ha hb cC cF cX cT hl hA
  generalize rts.length = n2 at *
  generalize lks.length = n3 at *
  replace cM : ∀ W, Calls Try.prog 17 #[.agg #[.int .u8 (kind : Int), .int .i64 router, .int .u64 (seq : Int), .int .i64 time, .bool pf.six, .int .u64 (hiN pf.n : Int), .int .u64 (loN pf.n : Int), .int .i64 pf.len, .int .u8 (act.k : Int), .int .i64 act.i, .int .i64 iface, .int .i64 peer]] W fun r w' => r = .returned (.int .i64 (if ke then 0 else 2)) ∧ Below W.heap.size W w' := cM
  replace cX : ∀ W B c d, RowAt W B [.int .i64 id, .bool up, c, d] 58 → Calls Try.prog 18 #[.pointer (some ⟨B, 0, none⟩), .agg #[.int .u8 (kind : Int), .int .i64 router, .int .u64 (seq : Int), .int .i64 time, .bool pf.six, .int .u64 (hiN pf.n : Int), .int .u64 (loN pf.n : Int), .int .i64 pf.len, .int .u8 (act.k : Int), .int .i64 act.i, .int .i64 iface, .int .i64 peer]] W fun x w' => x = .returned (.int .i64 M) ∧ Below W.heap.size W w' := cX
  replace cT : ∀ W B c d, RowAt W B [.int .i64 id, .bool up, c, d] 58 → HasRts W c rts → HasLks W d lks → Calls Try.prog 19 #[.pointer (some ⟨B, 0, none⟩), .agg #[.int .u8 (kind : Int), .int .i64 router, .int .u64 (seq : Int), .int .i64 time, .bool pf.six, .int .u64 (hiN pf.n : Int), .int .u64 (loN pf.n : Int), .int .i64 pf.len, .int .u8 (act.k : Int), .int .i64 act.i, .int .i64 iface, .int .i64 peer]] W (TakeIs B W T.1.id T.1.up T.1.rts T.1.lks T.2) := cT
  show Calls Try.prog 9 #[.agg #[.int .i64 id, .bool up, .slice o2 n2 m2, .slice o3 n3 m3], .agg #[.int .u8 (kind : Int), .int .i64 router, .int .u64 (seq : Int), .int .i64 time, .bool pf.six, .int .u64 (hiN pf.n : Int), .int .u64 (loN pf.n : Int), .int .i64 pf.len, .int .u8 (act.k : Int), .int .i64 act.i, .int .i64 iface, .int .i64 peer]] w (RoIs A.1 A.2 w)
  obtain ⟨X, hX⟩ : ∃ X, X = ((w.alloc (.cells #[.int .i64 id, .bool up, .slice o2 n2 m2, .slice o3 n3 m3] 25)).alloc (.cells #[.int .u8 (kind : Int), .int .i64 router, .int .u64 (seq : Int), .int .i64 time, .bool pf.six, .int .u64 (hiN pf.n : Int), .int .u64 (loN pf.n : Int), .int .i64 pf.len, .int .u8 (act.k : Int), .int .i64 act.i, .int .i64 iface, .int .i64 peer] 46)).alloc (.cells #[.int .i64 0, .bool false, .slice none 0 0, .slice none 0 0] 25) := ⟨_, rfl⟩
  have hB : Below w.heap.size w X := by rw [hX]; exact below_new (below_new (below_new (Below.refl _ _) _) _) _
  have r0 : RowAt X w.heap.size [.int .i64 id, .bool up, .slice o2 n2 m2, .slice o3 n3 m3] 25 := by rw [hX]; exact ((RowAt.new _ _ _).alloc _).alloc _
  have r1 : RowAt X (w.heap.size + 1) [.int .u8 (kind : Int), .int .i64 router, .int .u64 (seq : Int), .int .i64 time, .bool pf.six, .int .u64 (hiN pf.n : Int), .int .u64 (loN pf.n : Int), .int .i64 pf.len, .int .u8 (act.k : Int), .int .i64 act.i, .int .i64 iface, .int .i64 peer] 46 := by rw [hX, ← World.size_alloc w (.cells #[.int .i64 id, .bool up, .slice o2 n2 m2, .slice o3 n3 m3] 25)]; exact (RowAt.new _ _ _).alloc _
  have r2 : RowAt X (w.heap.size + 2) [.int .i64 0, .bool false, .slice none 0 0, .slice none 0 0] 25 := by rw [hX, show w.heap.size + 2 = ((w.alloc (.cells #[.int .i64 id, .bool up, .slice o2 n2 m2, .slice o3 n3 m3] 25)).alloc (.cells #[.int .u8 (kind : Int), .int .i64 router, .int .u64 (seq : Int), .int .i64 time, .bool pf.six, .int .u64 (hiN pf.n : Int), .int .u64 (loN pf.n : Int), .int .i64 pf.len, .int .u8 (act.k : Int), .int .i64 act.i, .int .i64 iface, .int .i64 peer] 46)).heap.size by simp]; exact RowAt.new _ _ _
  replace ha := ha.keep hB
  replace hb := hb.keep hB
  clear hf he
  have HA : Hid (A = if kr && ke then (if M = 0 then T else (⟨id, up, rts, lks⟩, M)) else (zeroRo, 2)) := hA
  clear hA
  have c25 := fun (W : World) => ro_nil W
  cases kr
  · have HV : Hid (A = (zeroRo, 2)) := HA.out
    clear HA cM cF cX cT hl
    simp only [Bool.false_eq_true, if_false] at cC
    go_enter Try.func9, Try.ntmps9
    go_upto_region 1 with fail
    rw [← hX]
    clear hX
    obtain ⟨p0, p1, p2, p3, pf0⟩ := cells4 r0
    go_wp2_with fail
    clear p0 p1 p2 p3 pf0
    go_at_call 12; refine (cC _ ha hb).mono ?_; rintro x w1 ⟨rfl, hb1⟩
    replace hB := below2 hB hb1
    obtain ⟨q0, q1, q2, q3, qf⟩ := cells4 (RowAt.below r2 hb1)
    clear hb1 cC
    go_wp2_with fail
    (try simp only [Exit.inBlock, Exit.then])
    refine bodyPost_ret (v := .tuple #[.agg #[.int .i64 0, .bool false, .slice none 0 0, .slice none 0 0], .int .i64 2]) ?_ rfl ⟨none, 0, 0, none, 0, 0, by rw [HV.out]; rfl, by rw [HV.out]; exact (c25 _).1, by rw [HV.out]; exact (c25 _).2, ?_⟩
    · rw [results_cell_tmp rfl]
      go_simp
    · exact set4_bl hB (by omega) _ _ _ _
  simp only [if_true] at cC
  cases ke
  · have HV : Hid (A = (zeroRo, 2)) := HA.out
    clear HA cF cX cT hl
    simp only [Bool.false_eq_true, if_false] at cM
    go_enter Try.func9, Try.ntmps9
    go_upto_region 1 with fail
    rw [← hX]
    clear hX
    obtain ⟨p0, p1, p2, p3, pf0⟩ := cells4 r0
    go_wp2_with fail
    clear p0 p1 p2 p3 pf0
    go_at_call 12; refine (cC _ ha hb).mono ?_; rintro x w1 ⟨rfl, hb1⟩
    replace hB := below2 hB hb1
    replace r1 := RowAt.below r1 hb1
    replace r2 := RowAt.below r2 hb1
    obtain ⟨p0, p1, p2, p3, p4, p5, p6, p7, p8, p9, p10, p11, pf0⟩ := cells12 r1
    clear hb1 cC
    go_wp2_with fail
    clear p0 p1 p2 p3 p4 p5 p6 p7 p8 p9 p10 p11 pf0
    go_at_call 17; refine (cM _).mono ?_; rintro x w2 ⟨rfl, hb2⟩
    replace hB := below2 hB hb2
    obtain ⟨q0, q1, q2, q3, qf⟩ := cells4 (RowAt.below r2 hb2)
    clear hb2 cM
    go_wp2_with fail
    (try simp only [Exit.inBlock, Exit.then])
    refine bodyPost_ret (v := .tuple #[.agg #[.int .i64 0, .bool false, .slice none 0 0, .slice none 0 0], .int .i64 2]) ?_ rfl ⟨none, 0, 0, none, 0, 0, by rw [HV.out]; rfl, by rw [HV.out]; exact (c25 _).1, by rw [HV.out]; exact (c25 _).2, ?_⟩
    · rw [results_cell_tmp rfl]
      go_simp
    · exact set4_bl hB (by omega) _ _ _ _
  simp only [if_true] at cM
  obtain ⟨hl1, hl2⟩ := hl rfl
  have HV : Hid (A = if M = 0 then T else (⟨id, up, rts, lks⟩, M)) := HA.out
  have HX := Nat.le_refl w.heap.size
  clear HA hl
  go_enter Try.func9, Try.ntmps9
  go_upto_region 1 with fail
  rw [← hX]
  clear hX
  obtain ⟨p0, p1, p2, p3, pf0⟩ := cells4 r0
  go_wp2_with fail
  clear p0 p1 p2 p3 pf0
  go_at_call 12; refine (cC _ ha hb).mono ?_; rintro x w1 ⟨rfl, hb1⟩
  replace hB := below2 hB hb1
  replace r0 := RowAt.below r0 hb1
  replace r1 := RowAt.below r1 hb1
  replace r2 := RowAt.below r2 hb1
  replace ha := ha.keep hb1
  replace hb := hb.keep hb1
  obtain ⟨p0, p1, p2, p3, p4, p5, p6, p7, p8, p9, p10, p11, pf0⟩ := cells12 r1
  clear hb1 cC
  go_wp2_with fail
  clear p0 p1 p2 p3 p4 p5 p6 p7 p8 p9 p10 p11 pf0
  go_at_call 17; refine (cM _).mono ?_; rintro x w2 ⟨rfl, hb2⟩
  replace hB := below2 hB hb2
  replace r0 := RowAt.below r0 hb2
  replace r1 := RowAt.below r1 hb2
  replace r2 := RowAt.below r2 hb2
  replace ha := ha.keep hb2
  replace hb := hb.keep hb2
  clear hb2 cM
  obtain ⟨p0, p1, p2, p3, pf0⟩ := cells4 r0
  go_wp2_with fail
  clear p0 p1 p2 p3 pf0
  go_at_call 14; refine (cF _ ha hb hl1 hl2).mono ?_; rintro x w3 ⟨c, d, rfl, hc, hd, hb3⟩
  replace hB := below2 hB hb3
  replace r1 := RowAt.below r1 hb3
  replace r2 := RowAt.below r2 hb3
  clear hb3 cF r0 ha hb
  obtain ⟨o4, m4, rfl, _⟩ := Lk.HasRow.slice hc
  obtain ⟨o5, m5, rfl, _⟩ := Lk.HasRow.slice hd
  generalize rts.length = n4 at *
  generalize lks.length = n5 at *
  obtain ⟨Y, hY⟩ : ∃ Y, Y = w3.alloc (.cells #[.int .i64 id, .bool up, .slice o4 n4 m4, .slice o5 n5 m5] 58) := ⟨_, rfl⟩
  have hbY : Below w3.heap.size w3 Y := by rw [hY]; exact below_new (Below.refl _ _) _
  have r3 : RowAt Y w3.heap.size [.int .i64 id, .bool up, .slice o4 n4 m4, .slice o5 n5 m5] 58 := by rw [hY]; exact RowAt.new _ _ _
  have hwB : w.heap.size ≤ w3.heap.size := hB.size
  replace hB := below2 hB hbY
  replace r1 := RowAt.below r1 hbY
  have hr2l := r2.lt
  replace r2 := RowAt.below r2 hbY
  replace hc := hc.keep hbY
  replace hd := hd.keep hbY
  go_upto_region 4 with fail
  rw [← hY]
  clear hY
  generalize w3.heap.size = B at *
  clear hbY
  obtain ⟨p0, p1, p2, p3, p4, p5, p6, p7, p8, p9, p10, p11, pf0⟩ := cells12 r1
  go_wp2_with fail
  clear p0 p1 p2 p3 p4 p5 p6 p7 p8 p9 p10 p11 pf0
  go_at_call 18; refine (cX _ _ _ _ r3).mono ?_; rintro x w4 ⟨rfl, hb4⟩
  replace hB := below2 hB hb4
  replace r1 := RowAt.below r1 hb4
  replace r2 := RowAt.below r2 hb4
  replace r3 := RowAt.below r3 hb4
  replace hc := hc.keep hb4
  replace hd := hd.keep hb4
  clear hb4 cX
  by_cases hM : M = 0
  · have HW : Hid (A = T) := by show _ = _; rw [HV.out, if_pos hM]
    clear HV
    subst hM
    obtain ⟨p0, p1, p2, p3, p4, p5, p6, p7, p8, p9, p10, p11, pf0⟩ := cells12 r1
    go_wp2_with fail
    clear p0 p1 p2 p3 p4 p5 p6 p7 p8 p9 p10 p11 pf0
    go_at_call 19; refine (cT _ _ _ _ r3 hc hd).mono ?_; rintro x w5 ⟨u, v, rfl, r4, hu, hv, hb5⟩
    obtain ⟨o6, m6, rfl, _⟩ := Lk.HasRow.slice hu
    obtain ⟨o7, m7, rfl, _⟩ := Lk.HasRow.slice hv
    generalize T.1.rts.length = n6 at *
    generalize T.1.lks.length = n7 at *
    have r5 : RowAt w5 (w.heap.size + 2) [.int .i64 0, .bool false, .slice none 0 0, .slice none 0 0] 25 := (hb5.block _ hr2l).trans r2
    have hB5 : Below w.heap.size w w5 := hB.trans (hb5.mono hwB)
    clear hB r1 r2 r3 hc hd hb5 cT
    obtain ⟨p0, p1, p2, p3, pf0⟩ := cells4 r4
    obtain ⟨q0, q1, q2, q3, qf⟩ := cells4 r5
    go_wp2_with fail
    (try simp only [Exit.inBlock, Exit.then])
    refine bodyPost_ret (v := .tuple #[.agg #[.int .i64 T.1.id, .bool T.1.up, .slice o6 n6 m6, .slice o7 n7 m7], .int .i64 T.2]) ?_ rfl ⟨_, _, _, _, _, _, by rw [HW.out], by rw [HW.out]; exact rts_apart hu r5 (set4_gr _ _ _ _ _ _), by rw [HW.out]; exact lks_apart hv r5 (set4_gr _ _ _ _ _ _), ?_⟩
    · rw [results_cell_tmp rfl]
      go_simp
    · exact set4_bl hB5 (by omega) _ _ _ _
  · have HW : Hid (A = (⟨id, up, rts, lks⟩, M)) := by show _ = _; rw [HV.out, if_neg hM]
    clear HV
    have hMb : (M == 0) = false := beq_eq_false_iff_ne.2 hM
    clear r1 cT
    obtain ⟨p0, p1, p2, p3, pf0⟩ := cells4 r3
    obtain ⟨q0, q1, q2, q3, qf⟩ := cells4 r2
    go_wp2_with fail
    (try simp only [Exit.inBlock, Exit.then])
    refine bodyPost_ret (v := .tuple #[.agg #[.int .i64 id, .bool up, .slice o4 n4 m4, .slice o5 n5 m5], .int .i64 M]) ?_ rfl ⟨_, _, _, _, _, _, by rw [HW.out], by rw [HW.out]; exact rts_apart hc r2 (set4_gr _ _ _ _ _ _), by rw [HW.out]; exact lks_apart hd r2 (set4_gr _ _ _ _ _ _), ?_⟩
    · rw [results_cell_tmp rfl]
      go_simp
    · exact set4_bl hB (by omega) _ _ _ _
end Go.Proofs.Ytklbnnnkogghpaa.Fib
namespace Go.Proofs.Ytklbnnnkogghpaa.Fib
open Go.RowKit
open Go.Proofs.Ytklbnnnkogghpaa.Addr (Pf hiN loN rightB RowAt below2 below_drew below_new RowAt.lt RowAt.cell RowAt.frozen RowAt.below RowAt.drew RowAt.new RowAt.alloc RowAt.set1 RowAt.far1 cells4 cells2 gset grefl bset gbelow gdrew RowAt.gkeep results_cell)
open Go.Proofs.Ytklbnnnkogghpaa.Msg (Ev Ac okE FitE evV evC checkE FitA)
open Go.Proofs.Ytklbnnnkogghpaa.Lk (Lk HasLks HasLks.keep FitL peerL)
open Go.Proofs.Ytklbnnnkogghpaa.Tr (Rt HasRts HasRts.keep FitR longT rtA)
def hopRo (R : Ro) (six : Bool) (a : Nat) : (Nat × Int) × Int := if okRo R && rightB six a then (doesRo R (longT R.rts six a).1.act, 0) else ((0, 0), 2)
theorem make_any (i : Int) (w : World) : Calls Try.prog 8 #[.int .i64 i] w (RoIs (makeRo i).1 (makeRo i).2 w) := by
  have cM := fun W => mayBe_any i W
  have hA : makeRo i = if okId i then (⟨i, false, [], []⟩, 0) else (zeroRo, 1) := rfl
  generalize makeRo i = A at hA ⊢
  generalize okId i = k at hA cM
  have HA : Hid (A = if k then (⟨i, false, [], []⟩, 0) else (zeroRo, 1)) := hA
  clear hA
  have c25 := fun (W : World) => ro_nil W
  obtain ⟨X, hX⟩ : ∃ X, X = w.alloc (.cells #[.int .i64 0, .bool false, .slice none 0 0, .slice none 0 0] 25) := ⟨_, rfl⟩
  have hB : Below w.heap.size w X := by rw [hX]; exact below_new (Below.refl _ _) _
  have r0 : RowAt X w.heap.size [.int .i64 0, .bool false, .slice none 0 0, .slice none 0 0] 25 := by rw [hX]; exact RowAt.new _ _ _
  go_enter Try.func8, Try.ntmps8
  go_upto_region 1 with fail
  rw [← hX]
  clear hX
  go_wp2_with fail
  go_at_call 16; refine (cM _).mono ?_; rintro x w1 ⟨rfl, hb1⟩
  replace hB := below2 hB hb1
  obtain ⟨q0, q1, q2, q3, qf⟩ := cells4 (RowAt.below r0 hb1)
  clear hb1 r0 cM
  cases k
  · have HV : Hid (A = (zeroRo, 1)) := HA.out
    clear HA
    go_wp2_with fail
    (try simp only [Exit.inBlock, Exit.then])
    refine bodyPost_ret (v := .tuple #[.agg #[.int .i64 0, .bool false, .slice none 0 0, .slice none 0 0], .int .i64 1]) ?_ rfl ⟨none, 0, 0, none, 0, 0, by rw [HV.out]; rfl, by rw [HV.out]; exact (c25 _).1, by rw [HV.out]; exact (c25 _).2, ?_⟩
    · rw [results_cell_tmp rfl]
      go_simp
    · exact set4_bl hB (by omega) _ _ _ _
  · have HV : Hid (A = (⟨i, false, [], []⟩, 0)) := HA.out
    clear HA
    go_wp2_with fail
    (try simp only [Exit.inBlock, Exit.then])
    refine bodyPost_ret (v := .tuple #[.agg #[.int .i64 i, .bool false, .slice none 0 0, .slice none 0 0], .int .i64 0]) ?_ rfl ⟨none, 0, 0, none, 0, 0, by rw [HV.out], by rw [HV.out]; exact (c25 _).1, by rw [HV.out]; exact (c25 _).2, ?_⟩
    · rw [results_cell_tmp rfl]
      go_simp
    · exact set4_bl hB (by omega) _ _ _ _
theorem size_fn (R : Ro) (a b : Value) (w : World) (ha : HasRts w a R.rts) (hb : HasLks w b R.lks) (hf : FitRo R) :
    Calls Try.prog 11 #[.agg #[.int .i64 R.id, .bool R.up, a, b]] w fun e w' => e = .returned (.tuple #[.int .i64 (sizeRo R).1, .int .i64 (sizeRo R).2]) ∧ Below w.heap.size w w' := by
  obtain ⟨o2, m2, rfl, _⟩ := Lk.HasRow.slice ha
  obtain ⟨o3, m3, rfl, _⟩ := Lk.HasRow.slice hb
  have cC := fun W (h : HasRts W (.slice o2 R.rts.length m2) R.rts) (h' : HasLks W (.slice o3 R.lks.length m3) R.lks) => check_any R _ _ W h h' hf.rts
  have cS := fun W (h : HasRts W (.slice o2 R.rts.length m2) R.rts) (h' : HasLks W (.slice o3 R.lks.length m3) R.lks) h1 h2 => size_any R _ _ W h h' h1 h2
  have hck : checkRo R = if okRo R then 0 else 2 := rfl
  rw [hck] at cC
  clear hck
  have hl : okRo R = true → R.rts.length ≤ 1000 ∧ R.lks.length ≤ 1000 := fun h => by have := okRo_parts h; omega
  have hA : sizeRo R = if okRo R then (((R.rts.length + R.lks.length : Nat) : Int), 0) else (0, 2) := rfl
  generalize sizeRo R = A at hA ⊢
  generalize okRo R = kr at hA cC hl
  generalize (((R.rts.length + R.lks.length : Nat) : Int)) = N at hA cS
  obtain ⟨id, up, rts, lks⟩ := R
  simp only at ha hb cC cS hl hA
  generalize rts.length = n2 at *
  generalize lks.length = n3 at *
  have HA : Hid (A = if kr then (N, 0) else (0, 2)) := hA
  clear hA hf
  obtain ⟨X, hX⟩ : ∃ X, X = w.alloc (.cells #[.int .i64 id, .bool up, .slice o2 n2 m2, .slice o3 n3 m3] 25) := ⟨_, rfl⟩
  have hB : Below w.heap.size w X := by rw [hX]; exact below_new (Below.refl _ _) _
  have r0 : RowAt X w.heap.size [.int .i64 id, .bool up, .slice o2 n2 m2, .slice o3 n3 m3] 25 := by rw [hX]; exact RowAt.new _ _ _
  replace ha := ha.keep hB
  replace hb := hb.keep hB
  show Calls Try.prog 11 #[.agg #[.int .i64 id, .bool up, .slice o2 n2 m2, .slice o3 n3 m3]] w _
  go_enter Try.func11, Try.ntmps11
  go_upto_region 1 with fail
  rw [← hX]
  clear hX
  obtain ⟨p0, p1, p2, p3, pf0⟩ := cells4 r0
  go_wp2_with fail
  clear p0 p1 p2 p3 pf0
  go_at_call 12; refine (cC _ ha hb).mono ?_; rintro x w1 ⟨rfl, hb1⟩
  replace hB := below2 hB hb1
  replace r0 := RowAt.below r0 hb1
  replace ha := ha.keep hb1
  replace hb := hb.keep hb1
  clear hb1 cC
  cases kr
  · have HV : Hid (A = (0, 2)) := HA.out
    clear HA hl
    go_wp2_with fail
    go_ret2
    exact ⟨by rw [HV.out]; rfl, hB⟩
  · have HV : Hid (A = (N, 0)) := HA.out
    obtain ⟨hl1, hl2⟩ := hl rfl
    clear HA hl
    obtain ⟨p0, p1, p2, p3, pf0⟩ := cells4 r0
    go_wp2_with fail
    clear p0 p1 p2 p3 pf0
    go_at_call 23; refine (cS _ ha hb hl1 hl2).mono ?_; rintro x w2 ⟨rfl, hb2⟩
    replace hB := below2 hB hb2
    clear hb2 cS
    go_wp2_with fail
    go_ret2
    exact ⟨by rw [HV.out]; rfl, hB⟩
theorem set2_bl {b0 B : Nat} {w0 W : World} (h : Below b0 w0 W) (hb : b0 ≤ B) (x y : Value) : Below b0 w0 ((W.setCell ⟨B, 0, none⟩ x).setCell ⟨B, 1, none⟩ y) := bset (bset h hb) hb
set_option maxHeartbeats 2000000 in
theorem sends_any (R : Ro) (i : Int) (B : Nat) (a b : Value) (w : World) (hr : RowAt w B [.int .i64 R.id, .bool R.up, a, b] 58) (hb : HasLks w b R.lks) :
    Calls Try.prog 44 #[.pointer (some ⟨B, 0, none⟩), .int .i64 i] w fun x w' => x = .returned (.agg #[.int .u8 ((sendsRo R i).1 : Int), .int .i64 (sendsRo R i).2]) ∧ Below w.heap.size w w' := by
  obtain ⟨o3, m3, rfl, _⟩ := Lk.HasRow.slice hb
  have cP := fun W (h : HasLks W (.slice o3 R.lks.length m3) R.lks) => Lk.peer_any R.lks _ i W h
  have hA : sendsRo R i = if (peerL R.lks i).2 = 0 then (1, (peerL R.lks i).1) else (0, 0) := rfl
  generalize sendsRo R i = A at hA ⊢
  generalize (peerL R.lks i).2 = why at hA cP
  generalize (peerL R.lks i).1 = peer at hA cP
  obtain ⟨id, up, rts, lks⟩ := R
  simp only at hr hb cP
  generalize lks.length = n3 at *
  have HA : Hid (A = if why = 0 then (1, peer) else (0, 0)) := hA
  clear hA
  obtain ⟨X, hX⟩ : ∃ X, X = w.alloc (.cells #[.int .u8 0, .int .i64 0] 49) := ⟨_, rfl⟩
  have hB : Below w.heap.size w X := by rw [hX]; exact below_new (Below.refl _ _) _
  have r0 : RowAt X w.heap.size [.int .u8 0, .int .i64 0] 49 := by rw [hX]; exact RowAt.new _ _ _
  replace hr := RowAt.below hr hB
  replace hb := hb.keep hB
  go_enter Try.func44, Try.ntmps44
  go_upto_region 1 with fail
  rw [← hX]
  clear hX
  obtain ⟨p0, p1, p2, p3, pf0⟩ := cells4 hr
  go_wp2_with fail
  clear p0 p1 p2 p3 pf0
  go_at_call 71; refine (cP _ hb).mono ?_; rintro x w1 ⟨rfl, hb1⟩
  replace hB := below2 hB hb1
  obtain ⟨q0, q1, qf⟩ := cells2 (RowAt.below r0 hb1)
  clear hb1 cP r0 hr hb
  by_cases hw : why = 0
  · have HV : Hid (A = (1, peer)) := by show _ = _; rw [HA.out, if_pos hw]
    clear HA
    subst hw
    go_wp2_with fail
    (try simp only [Exit.inBlock, Exit.then])
    refine bodyPost_ret (v := .agg #[.int .u8 1, .int .i64 peer]) ?_ rfl ⟨by rw [HV.out]; rfl, ?_⟩
    · rw [results_cell rfl]
      go_simp
    · exact set2_bl hB (by omega) _ _
  · have HV : Hid (A = (0, 0)) := by show _ = _; rw [HA.out, if_neg hw]
    have hwb : (why != 0) = true := by simpa using hw
    clear HA
    go_wp2_with fail
    (try simp only [Exit.inBlock, Exit.then])
    refine bodyPost_ret (v := .agg #[.int .u8 0, .int .i64 0]) ?_ rfl ⟨by rw [HV.out]; rfl, ?_⟩
    · rw [results_cell rfl]
      go_simp
    · exact set2_bl hB (by omega) _ _
set_option maxHeartbeats 2000000 in
theorem does_any (R : Ro) (t : Ac) (B : Nat) (a b : Value) (w : World) (hr : RowAt w B [.int .i64 R.id, .bool R.up, a, b] 58) (hb : HasLks w b R.lks) :
    Calls Try.prog 22 #[.pointer (some ⟨B, 0, none⟩), .agg #[.int .u8 (t.k : Int), .int .i64 t.i]] w fun x w' => x = .returned (.agg #[.int .u8 ((doesRo R t).1 : Int), .int .i64 (doesRo R t).2]) ∧ Below w.heap.size w w' := by
  have cS := fun W (hb : Below w.heap.size w W) (h : HasLks W b R.lks) => sends_any R t.i B a b W (RowAt.below hr hb) h
  have hA : doesRo R t = if t.k = 1 then sendsRo R t.i else if t.k = 2 then (2, 0) else if t.k = 3 then (3, 0) else (0, 0) := rfl
  generalize doesRo R t = A at hA ⊢
  generalize sendsRo R t.i = S at hA cS
  obtain ⟨k, i⟩ := t
  simp only at hA cS ⊢
  have HA0 : (k = 1 ↔ (k : Int) = 1) ∧ (k = 2 ↔ (k : Int) = 2) ∧ (k = 3 ↔ (k : Int) = 3) := by omega
  simp only [HA0.1, HA0.2.1, HA0.2.2] at hA
  clear HA0
  generalize (k : Int) = k at hA ⊢
  have HA : Hid (A = if k = 1 then S else if k = 2 then (2, 0) else if k = 3 then (3, 0) else (0, 0)) := hA
  clear hA
  obtain ⟨X, hX⟩ : ∃ X, X = (w.alloc (.cells #[.int .u8 k, .int .i64 i] 44)).alloc (.cells #[.int .u8 0, .int .i64 0] 49) := ⟨_, rfl⟩
  have hB : Below w.heap.size w X := by rw [hX]; exact below_new (below_new (Below.refl _ _) _) _
  have r0 : RowAt X w.heap.size [.int .u8 k, .int .i64 i] 44 := by rw [hX]; exact (RowAt.new _ _ _).alloc _
  have r1 : RowAt X (w.heap.size + 1) [.int .u8 0, .int .i64 0] 49 := by rw [hX, ← World.size_alloc w (.cells #[.int .u8 k, .int .i64 i] 44)]; exact RowAt.new _ _ _
  replace hb := hb.keep hB
  obtain ⟨p0, p1, pf0⟩ := cells2 r0
  obtain ⟨q0, q1, qf⟩ := cells2 r1
  by_cases k1 : k = 1
  · have HV : Hid (A = S) := by show _ = _; rw [HA.out, if_pos k1]
    clear HA
    subst k1
    go_enter Try.func22, Try.ntmps22
    go_upto_region 1 with fail
    rw [← hX]
    clear hX
    go_wp2_with fail
    clear p0 p1 pf0 q0 q1 qf
    go_at_call 44; refine (cS _ hB hb).mono ?_; rintro x w1 ⟨rfl, hb1⟩
    replace hB := below2 hB hb1
    obtain ⟨q0, q1, qf⟩ := cells2 (RowAt.below r1 hb1)
    clear hb1 cS r0 r1 hb hr
    go_wp2_with fail
    (try simp only [Exit.inBlock, Exit.then])
    refine bodyPost_ret (v := .agg #[.int .u8 (S.1 : Int), .int .i64 S.2]) ?_ rfl ⟨by rw [HV.out], ?_⟩
    · rw [results_cell rfl]
      go_simp
    · exact set2_bl hB (by omega) _ _
  have kb1 : (k == 1) = false := beq_eq_false_iff_ne.2 (by omega)
  clear cS r0 r1 hb hr
  by_cases k2 : k = 2
  · have HV : Hid (A = (2, 0)) := by show _ = _; rw [HA.out, if_neg k1, if_pos k2]
    clear HA
    subst k2
    go_enter Try.func22, Try.ntmps22
    go_upto_region 1 with fail
    rw [← hX]
    clear hX
    go_wp2_with fail
    (try simp only [Exit.inBlock, Exit.then])
    refine bodyPost_ret (v := .agg #[.int .u8 2, .int .i64 0]) ?_ rfl ⟨by rw [HV.out]; rfl, ?_⟩
    · rw [results_cell rfl]
      go_simp
    · exact set2_bl hB (by omega) _ _
  have kb2 : (k == 2) = false := beq_eq_false_iff_ne.2 (by omega)
  by_cases k3 : k = 3
  · have HV : Hid (A = (3, 0)) := by show _ = _; rw [HA.out, if_neg k1, if_neg k2, if_pos k3]
    clear HA
    subst k3
    go_enter Try.func22, Try.ntmps22
    go_upto_region 1 with fail
    rw [← hX]
    clear hX
    go_wp2_with fail
    (try simp only [Exit.inBlock, Exit.then])
    refine bodyPost_ret (v := .agg #[.int .u8 3, .int .i64 0]) ?_ rfl ⟨by rw [HV.out]; rfl, ?_⟩
    · rw [results_cell rfl]
      go_simp
    · exact set2_bl hB (by omega) _ _
  have kb3 : (k == 3) = false := beq_eq_false_iff_ne.2 (by omega)
  have HV : Hid (A = (0, 0)) := by show _ = _; rw [HA.out, if_neg k1, if_neg k2, if_neg k3]
  clear HA k1 k2 k3
  go_enter Try.func22, Try.ntmps22
  go_upto_region 1 with fail
  rw [← hX]
  clear hX
  go_wp2_with fail
  (try simp only [Exit.inBlock, Exit.then])
  refine bodyPost_ret (v := .agg #[.int .u8 0, .int .i64 0]) ?_ rfl ⟨by rw [HV.out]; rfl, ?_⟩
  · rw [results_cell rfl]
    go_simp
  · exact set2_bl hB (by omega) _ _
set_option maxHeartbeats 4000000 in
set_option maxRecDepth 20000 in
theorem hop_any (R : Ro) (six : Bool) (a : Nat) (u v : Value) (w : World) (ha : HasRts w u R.rts) (hb : HasLks w v R.lks) (hf : FitRo R) (hn : a < 2 ^ 128) :
    Calls Try.prog 10 #[.agg #[.int .i64 R.id, .bool R.up, u, v], .bool six, .agg #[.int .u64 (hiN a : Int), .int .u64 (loN a : Int)]] w fun e w' => e = .returned (.tuple #[.agg #[.int .u8 ((hopRo R six a).1.1 : Int), .int .i64 (hopRo R six a).1.2], .int .i64 (hopRo R six a).2]) ∧ Below w.heap.size w w' := by
  obtain ⟨o2, m2, rfl, _⟩ := Lk.HasRow.slice ha
  obtain ⟨o3, m3, rfl, _⟩ := Lk.HasRow.slice hb
  have cC := fun W (h : HasRts W (.slice o2 R.rts.length m2) R.rts) (h' : HasLks W (.slice o3 R.lks.length m3) R.lks) => check_any R _ _ W h h' hf.rts
  have cR : ∀ W, Calls Try.prog 20 #[.bool six, .agg #[.int .u64 (hiN a : Int), .int .u64 (loN a : Int)]] W fun e w' => e = .returned (.bool (rightB six a)) ∧ Below W.heap.size W w' := fun W => Addr.right_any six a W hn
  have cL := fun W (h : HasRts W (.slice o2 R.rts.length m2) R.rts) => Tr.longest_any R.rts _ six a W h hf.rts hn
  have cD := fun W B (hr : RowAt W B [.int .i64 R.id, .bool R.up, .slice o2 R.rts.length m2, .slice o3 R.lks.length m3] 58) (h : HasLks W (.slice o3 R.lks.length m3) R.lks) => does_any R (longT R.rts six a).1.act B _ _ W hr h
  have hck : checkRo R = if okRo R then 0 else 2 := rfl
  rw [hck] at cC
  clear hck
  have hA : hopRo R six a = if okRo R && rightB six a then (doesRo R (longT R.rts six a).1.act, 0) else ((0, 0), 2) := rfl
  generalize hopRo R six a = A at hA ⊢
  generalize okRo R = kr at hA cC
  generalize rightB six a = ka at hA cR
  generalize doesRo R (longT R.rts six a).1.act = D at hA cD
  unfold rtA at cL
  generalize (longT R.rts six a).2 = lw at cL
  generalize (longT R.rts six a).1 = lr at cL cD
  obtain ⟨⟨z0, z1, z2⟩, ⟨z3, z4⟩⟩ := lr
  obtain ⟨id, up, rts, lks⟩ := R
  simp only at ha hb cC cL cD hA
  generalize rts.length = n2 at *
  generalize lks.length = n3 at *
  generalize hiN a = h at *
  generalize loN a = l at *
  generalize hiN z1 = zh at *
  generalize loN z1 = zl at *
  have HA : Hid (A = if kr && ka then (D, 0) else ((0, 0), 2)) := hA
  clear hA hf hn
  show Calls Try.prog 10 #[.agg #[.int .i64 id, .bool up, .slice o2 n2 m2, .slice o3 n3 m3], .bool six, .agg #[.int .u64 (h : Int), .int .u64 (l : Int)]] w _
  obtain ⟨X, hX⟩ : ∃ X, X = ((w.alloc (.cells #[.int .i64 id, .bool up, .slice o2 n2 m2, .slice o3 n3 m3] 25)).alloc (.cells #[.int .u64 (h : Int), .int .u64 (l : Int)] 36)).alloc (.cells #[.int .u8 0, .int .i64 0] 49) := ⟨_, rfl⟩
  have hB : Below w.heap.size w X := by rw [hX]; exact below_new (below_new (below_new (Below.refl _ _) _) _) _
  have r0 : RowAt X w.heap.size [.int .i64 id, .bool up, .slice o2 n2 m2, .slice o3 n3 m3] 25 := by rw [hX]; exact ((RowAt.new _ _ _).alloc _).alloc _
  have r1 : RowAt X (w.heap.size + 1) [.int .u64 (h : Int), .int .u64 (l : Int)] 36 := by rw [hX, ← World.size_alloc w (.cells #[.int .i64 id, .bool up, .slice o2 n2 m2, .slice o3 n3 m3] 25)]; exact (RowAt.new _ _ _).alloc _
  have r2 : RowAt X (w.heap.size + 2) [.int .u8 0, .int .i64 0] 49 := by rw [hX, show w.heap.size + 2 = ((w.alloc (.cells #[.int .i64 id, .bool up, .slice o2 n2 m2, .slice o3 n3 m3] 25)).alloc (.cells #[.int .u64 (h : Int), .int .u64 (l : Int)] 36)).heap.size by simp]; exact RowAt.new _ _ _
  replace ha := ha.keep hB
  replace hb := hb.keep hB
  cases kr
  · have HV : Hid (A = ((0, 0), 2)) := HA.out
    clear HA cL cD cR
    simp only [Bool.false_eq_true, if_false] at cC
    go_enter Try.func10, Try.ntmps10
    go_upto_region 1 with fail
    rw [← hX]
    clear hX
    obtain ⟨p0, p1, p2, p3, pf0⟩ := cells4 r0
    go_wp2_with fail
    clear p0 p1 p2 p3 pf0
    go_at_call 12; refine (cC _ ha hb).mono ?_; rintro x w1 ⟨rfl, hb1⟩
    replace hB := below2 hB hb1
    replace r0 := RowAt.below r0 hb1
    replace r1 := RowAt.below r1 hb1
    replace r2 := RowAt.below r2 hb1
    replace ha := ha.keep hb1
    replace hb := hb.keep hb1
    clear hb1 cC
    obtain ⟨q0, q1, qf⟩ := cells2 r2
    go_wp2_with fail
    (try simp only [Exit.inBlock, Exit.then])
    refine bodyPost_ret (v := .tuple #[.agg #[.int .u8 0, .int .i64 0], .int .i64 2]) ?_ rfl ⟨by rw [HV.out]; rfl, ?_⟩
    · rw [results_cell_tmp rfl]
      go_simp
    · exact set2_bl hB (by omega) _ _
  simp only [if_true] at cC
  cases ka
  · have HV : Hid (A = ((0, 0), 2)) := HA.out
    clear HA cL cD
    go_enter Try.func10, Try.ntmps10
    go_upto_region 1 with fail
    rw [← hX]
    clear hX
    obtain ⟨p0, p1, p2, p3, pf0⟩ := cells4 r0
    go_wp2_with fail
    clear p0 p1 p2 p3 pf0
    go_at_call 12; refine (cC _ ha hb).mono ?_; rintro x w1 ⟨rfl, hb1⟩
    replace hB := below2 hB hb1
    replace r0 := RowAt.below r0 hb1
    replace r1 := RowAt.below r1 hb1
    replace r2 := RowAt.below r2 hb1
    replace ha := ha.keep hb1
    replace hb := hb.keep hb1
    clear hb1 cC
    obtain ⟨q0, q1, qf⟩ := cells2 r1
    go_wp2_with fail
    clear q0 q1 qf
    go_at_call 20; refine (cR _).mono ?_; rintro x w2 ⟨rfl, hb2⟩
    replace hB := below2 hB hb2
    replace r2 := RowAt.below r2 hb2
    clear hb2 cR
    obtain ⟨q0, q1, qf⟩ := cells2 r2
    go_wp2_with fail
    (try simp only [Exit.inBlock, Exit.then])
    refine bodyPost_ret (v := .tuple #[.agg #[.int .u8 0, .int .i64 0], .int .i64 2]) ?_ rfl ⟨by rw [HV.out]; rfl, ?_⟩
    · rw [results_cell_tmp rfl]
      go_simp
    · exact set2_bl hB (by omega) _ _
  have HV : Hid (A = (D, 0)) := HA.out
  clear HA
  go_enter Try.func10, Try.ntmps10
  go_upto_region 1 with fail
  rw [← hX]
  clear hX
  obtain ⟨p0, p1, p2, p3, pf0⟩ := cells4 r0
  go_wp2_with fail
  clear p0 p1 p2 p3 pf0
  go_at_call 12; refine (cC _ ha hb).mono ?_; rintro x w1 ⟨rfl, hb1⟩
  replace hB := below2 hB hb1
  replace r0 := RowAt.below r0 hb1
  replace r1 := RowAt.below r1 hb1
  replace r2 := RowAt.below r2 hb1
  replace ha := ha.keep hb1
  replace hb := hb.keep hb1
  clear hb1 cC
  obtain ⟨q0, q1, qf⟩ := cells2 r1
  go_wp2_with fail
  clear q0 q1 qf
  go_at_call 20; refine (cR _).mono ?_; rintro x w2 ⟨rfl, hb2⟩
  replace hB := below2 hB hb2
  replace r0 := RowAt.below r0 hb2
  replace r1 := RowAt.below r1 hb2
  replace r2 := RowAt.below r2 hb2
  replace ha := ha.keep hb2
  replace hb := hb.keep hb2
  clear hb2 cR
  obtain ⟨p0, p1, p2, p3, pf0⟩ := cells4 r0
  obtain ⟨q0, q1, qf⟩ := cells2 r1
  go_wp2_with fail
  clear p0 p1 p2 p3 pf0 q0 q1 qf
  go_at_call 21; refine (cL _ ha).mono ?_; rintro x w3 ⟨rfl, hb3⟩
  replace hB := below2 hB hb3
  replace r0 := RowAt.below r0 hb3
  replace r2 := RowAt.below r2 hb3
  replace hb := hb.keep hb3
  clear hb3 cL r1 ha
  obtain ⟨V, hV⟩ : ∃ V, V = w3.alloc (.cells #[.bool z0, .int .u64 (zh : Int), .int .u64 (zl : Int), .int .i64 z2, .int .u8 (z3 : Int), .int .i64 z4] 61) := ⟨_, rfl⟩
  have hbV : Below w3.heap.size w3 V := by rw [hV]; exact below_new (Below.refl _ _) _
  have r3 : RowAt V w3.heap.size [.bool z0, .int .u64 (zh : Int), .int .u64 (zl : Int), .int .i64 z2, .int .u8 (z3 : Int), .int .i64 z4] 61 := by rw [hV]; exact RowAt.new _ _ _
  replace hB := below2 hB hbV
  replace r0 := RowAt.below r0 hbV
  replace r2 := RowAt.below r2 hbV
  replace hb := hb.keep hbV
  go_upto_region 4 with fail
  rw [← hV]
  clear hV hbV
  generalize w3.heap.size = B at *
  obtain ⟨p0, p1, p2, p3, pf0⟩ := cells4 r0
  obtain ⟨Y, hY⟩ : ∃ Y, Y = V.alloc (.cells #[.int .i64 id, .bool up, .slice o2 n2 m2, .slice o3 n3 m3] 58) := ⟨_, rfl⟩
  have hbY : Below V.heap.size V Y := by rw [hY]; exact below_new (Below.refl _ _) _
  have r4 : RowAt Y V.heap.size [.int .i64 id, .bool up, .slice o2 n2 m2, .slice o3 n3 m3] 58 := by rw [hY]; exact RowAt.new _ _ _
  replace hB := below2 hB hbY
  replace r2 := RowAt.below r2 hbY
  replace r3 := RowAt.below r3 hbY
  replace hb := hb.keep hbY
  go_upto_region 5 with fail
  rw [← hY]
  clear hY p0 p1 p2 p3 pf0 r0 hbY
  have s4 := RowAt.cell r3 4
  have s5 := RowAt.cell r3 5
  have s6 := RowAt.frozen r3
  simp only [List.getElem?_cons_succ, List.getElem?_cons_zero] at s4 s5
  go_wp2_with fail
  clear s4 s5 s6
  go_at_call 22; refine (cD _ _ r4 hb).mono ?_; rintro x w4 ⟨rfl, hb4⟩
  replace hB := below2 hB hb4
  obtain ⟨q0, q1, qf⟩ := cells2 (RowAt.below r2 hb4)
  clear hb4 cD r2 r3 r4 hb
  go_wp2_with fail
  (try simp only [Exit.inBlock, Exit.then])
  refine bodyPost_ret (v := .tuple #[.agg #[.int .u8 (D.1 : Int), .int .i64 D.2], .int .i64 0]) ?_ rfl ⟨by rw [HV.out], ?_⟩
  · rw [results_cell_tmp rfl]
    go_simp
  · exact set2_bl hB (by omega) _ _
end Go.Proofs.Ytklbnnnkogghpaa.Fib
namespace Go.Proofs.Ytklbnnnkogghpaa.Fib
open Go.Proofs.Ytklbnnnkogghpaa.Addr (Pf okP rightB hiN loN)
open Go.Proofs.Ytklbnnnkogghpaa.Msg (Ev Ac okE FitE okA headB partsB unN zeroE zeroPf zeroA eqE_iff)
open Go.Proofs.Ytklbnnnkogghpaa.Lk (Lk okL okK FitL delL others)
open Go.Proofs.Ytklbnnnkogghpaa.Tr (Rt okT okR FitR putT delT othersT insT longT zeroR)
theorem okE_parts {e : Ev} (h : okE e = true) : (1 ≤ e.kind ∧ e.kind ≤ 6) ∧ (0 ≤ e.router ∧ e.router ≤ 1048576) ∧ okP e.pf = true ∧ (0 ≤ e.iface ∧ e.iface ≤ 65536) ∧ (0 ≤ e.peer ∧ e.peer ≤ 1048576) ∧ (e.kind = 3 → okA e.act = true) := by
  unfold okE headB partsB at h
  simp only [Bool.and_eq_true, decide_eq_true_eq, Bool.or_eq_true, and_assoc] at h
  obtain ⟨h1, h2, h3, h4, h5, h6, h7, h8, h9, h10, h11, h12, h13, h14, h15⟩ := h
  refine ⟨⟨h1, h2⟩, ⟨h3, h4⟩, h9, ⟨h10, h11⟩, ⟨h12, h13⟩, fun hk => ?_⟩
  rcases h14 with h | h
  · exact absurd hk h
  · exact h
theorem okE_of {e : Ev} (h1 : headB e = true) (h2 : partsB e = true) (h3 : unN e = zeroE) : okE e = true := by
  unfold okE
  rw [h1, h2, (eqE_iff _ _).2 h3]
  rfl
theorem okId_iff (i : Int) : okId i = true ↔ 0 ≤ i ∧ i ≤ 1048576 := by unfold okId; simp
theorem zero_ok : okP zeroPf = true := by decide
theorem okE_plain {k : Nat} {id : Int} {s : Nat} (hk : k = 1 ∨ k = 2) (hs : s = 1 ∨ s = 2) (h : okId id = true) : okE ⟨k, id, s, 0, ⟨false, 0, 0⟩, ⟨0, 0⟩, 0, 0⟩ = true := by
  obtain ⟨h1, h2⟩ := (okId_iff id).1 h
  refine okE_of ?_ ?_ ?_
  · unfold headB
    simp only [Bool.and_eq_true, decide_eq_true_eq]
    omega
  · unfold partsB
    rw [show okP (⟨false, 0, 0⟩ : Pf) = true from zero_ok]
    simp only [Bool.and_eq_true, decide_eq_true_eq, Bool.or_eq_true, true_and]
    exact ⟨⟨by omega, by omega⟩, .inl (by omega)⟩
  · unfold unN
    simp only
    rw [if_neg (by omega), if_neg (by omega), if_neg (by omega), if_neg (by omega)]
    rfl
theorem okK_of {i p : Int} (h1 : 0 ≤ i ∧ i ≤ 65536) (h2 : 0 ≤ p ∧ p ≤ 1048576) : okK ⟨i, p⟩ = true := by
  unfold okK
  simp only [Bool.and_eq_true, decide_eq_true_eq]
  omega
theorem okR_of {p : Pf} {a : Ac} (h1 : okP p = true) (h2 : okA a = true) : okR ⟨p, a⟩ = true := by unfold okR; rw [h1, h2]; rfl
theorem mem_othersT {l : List Rt} {p : Pf} {z : Rt} : z ∈ othersT l p ↔ z ∈ l ∧ z.pf ≠ p := by
  unfold othersT
  rw [List.mem_filter]
  simp [Tr.ordP_eq]
theorem okT_others {l : List Rt} (h : okT l = true) (p : Pf) : okT (othersT l p) = true := by
  obtain ⟨h1, h2, h3⟩ := (Tr.okT_iff l).1 h
  exact (Tr.okT_iff _).2 ⟨Nat.le_trans (Tr.othersT_le l p) h1, fun x hx => h2 x (mem_othersT.1 hx).1, h3.sublist List.filter_sublist⟩
theorem okL_others {l : List Lk} (h : okL l = true) (i : Int) : okL (others l i) = true := by
  obtain ⟨h1, h2, h3⟩ := (Lk.okL_iff l).1 h
  exact (Lk.okL_iff _).2 ⟨Nat.le_trans (Lk.others_le l i) h1, fun x hx => h2 x ((Lk.mem_others l i x).1 hx).1, Lk.up_others h3 i⟩
theorem okRo_iff (R : Ro) : okRo R = true ↔ okId R.id = true ∧ okT R.rts = true ∧ okL R.lks = true ∧ (R.up = true ∨ (R.rts = [] ∧ R.lks = [])) := by
  unfold okRo
  simp only [Bool.and_eq_true, Bool.or_eq_true, decide_eq_true_eq, and_assoc]
  have : R.rts.length + R.lks.length = 0 ↔ R.rts = [] ∧ R.lks = [] := by
    rw [Nat.add_eq_zero_iff, List.length_eq_zero_iff, List.length_eq_zero_iff]
  rw [this]
/-- an event that happened, or did not: what there is then -/
theorem apply_right {R : Ro} {e : Ev} (hr : okRo R = true) (he : okE e = true) (hm : misRo R e = 0) :
    ((takeRo R e).2 = 0 ∧ okRo (takeRo R e).1 = true ∧ (takeRo R e).1.id = R.id ∧ (takeRo R e).1.up = !decide (e.kind = 2) ∧ (¬ (e.kind = 3 ∨ e.kind = 4 ∨ e.kind = 2) → (takeRo R e).1.rts = R.rts) ∧ (¬ (e.kind = 5 ∨ e.kind = 6 ∨ e.kind = 2) → (takeRo R e).1.lks = R.lks)) ∨ ((takeRo R e).2 = 8 ∧ (takeRo R e).1 = R) := by
  obtain ⟨r1, r2, r3, r4⟩ := (okRo_iff R).1 hr
  obtain ⟨e1, e2, e3, e4, e5, e6⟩ := okE_parts he
  have hrt : e.router = R.id := by
    unfold misRo at hm
    split at hm
    · assumption
    · cases hm
  have hst : decide (e.kind = 1) ≠ R.up := by
    unfold misRo at hm
    rw [if_pos hrt] at hm
    split at hm
    · cases hm
    · assumption
  obtain ⟨id, up, rts, lks⟩ := R
  simp only at r1 r2 r3 r4 hst
  have hup : e.kind ≠ 1 → up = true := fun h => by
    rw [decide_eq_false h] at hst
    cases up
    · exact absurd rfl hst
    · rfl
  unfold takeRo
  simp only
  by_cases k1 : e.kind = 1
  · rw [if_pos k1]
    refine .inl ⟨rfl, (okRo_iff _).2 ⟨r1, r2, r3, .inl rfl⟩, rfl, ?_, fun _ => rfl, fun _ => rfl⟩
    rw [decide_eq_false (by omega)]; rfl
  rw [if_neg k1]
  have hu := hup k1
  subst hu
  by_cases k2 : e.kind = 2
  · rw [if_pos k2]
    refine .inl ⟨rfl, (okRo_iff _).2 ⟨r1, rfl, rfl, .inr ⟨rfl, rfl⟩⟩, rfl, ?_, fun h => absurd (.inr (.inr k2)) h, fun h => absurd (.inr (.inr k2)) h⟩
    rw [decide_eq_true k2]; rfl
  rw [if_neg k2]
  have hd : (true : Bool) = !decide (e.kind = 2) := by rw [decide_eq_false k2]; rfl
  by_cases k3 : e.kind = 3
  · rw [if_pos k3]
    have hR := okR_of e3 (e6 k3)
    by_cases h0 : (putT rts ⟨e.pf, e.act⟩).2 = 0
    · obtain ⟨p1, p2, p3, p4⟩ := Tr.putT_ok h0
      refine .inl ⟨h0, (okRo_iff _).2 ⟨r1, ?_, r3, .inl rfl⟩, rfl, hd, fun h => absurd (.inl k3) h, fun _ => rfl⟩
      show okT (putT rts ⟨e.pf, e.act⟩).1 = true
      rw [p3]; exact p4
    · unfold putT at h0 ⊢
      rw [r2, hR] at h0 ⊢
      simp only [Bool.and_self, if_true] at h0 ⊢
      split at h0
      · rename_i h9
        rw [if_pos h9]
        exact .inr ⟨rfl, rfl⟩
      · exact absurd rfl h0
  rw [if_neg k3]
  by_cases k4 : e.kind = 4
  · rw [if_pos k4]
    have hD : (delT rts e.pf).1 = othersT rts e.pf := by unfold delT; rw [r2, e3]; rfl
    refine .inl ⟨rfl, (okRo_iff _).2 ⟨r1, ?_, r3, .inl rfl⟩, rfl, hd, fun h => absurd (.inr (.inl k4)) h, fun _ => rfl⟩
    show okT (delT rts e.pf).1 = true
    rw [hD]; exact okT_others r2 _
  rw [if_neg k4]
  by_cases k5 : e.kind = 5
  · rw [if_pos k5]
    have hK := okK_of e4 e5
    by_cases h0 : (Lk.putL lks ⟨e.iface, e.peer⟩).2 = 0
    · obtain ⟨p1, p2, p3, p4⟩ := Lk.put_ok h0
      refine .inl ⟨h0, (okRo_iff _).2 ⟨r1, r2, ?_, .inl rfl⟩, rfl, hd, fun _ => rfl, fun h => absurd (.inl k5) h⟩
      show okL (Lk.putL lks ⟨e.iface, e.peer⟩).1 = true
      rw [p4]; exact Lk.ok_ins p1 p2 p3
    · rcases Lk.put_not h0 with h1 | ⟨h1, h2⟩
      · exfalso
        unfold Lk.putL at h1
        rw [r3, hK] at h1
        simp only [Bool.and_self, if_true] at h1
        split at h1 <;> cases h1
      · refine .inr ⟨h1, ?_⟩
        rw [h2]
  rw [if_neg k5]
  have k6 : e.kind = 6 := by omega
  rw [if_pos k6]
  have hD : (delL lks e.iface).1 = others lks e.iface := by unfold delL; rw [r3]; rfl
  refine .inl ⟨rfl, (okRo_iff _).2 ⟨r1, r2, ?_, .inl rfl⟩, rfl, hd, fun _ => rfl, fun h => absurd (.inr (.inl k6)) h⟩
  show okL (delL lks e.iface).1 = true
  rw [hD]; exact okL_others r3 _
theorem apply_cases (R : Ro) (e : Ev) :
    ((applyRo R e).2 = 0 ∧ okRo R = true ∧ okE e = true ∧ misRo R e = 0 ∧ applyRo R e = takeRo R e ∧ okRo (applyRo R e).1 = true ∧ (applyRo R e).1.id = R.id ∧ (applyRo R e).1.up = !decide (e.kind = 2) ∧ (¬ (e.kind = 3 ∨ e.kind = 4 ∨ e.kind = 2) → (applyRo R e).1.rts = R.rts) ∧ (¬ (e.kind = 5 ∨ e.kind = 6 ∨ e.kind = 2) → (applyRo R e).1.lks = R.lks)) ∨ ((applyRo R e).2 = 2 ∧ (applyRo R e).1 = zeroRo) ∨ ((applyRo R e).2 ≠ 0 ∧ (applyRo R e).2 ≠ 2 ∧ (applyRo R e).1 = R ∧ okRo R = true) := by
  unfold applyRo
  cases h : okRo R && okE e with
  | false => exact .inr (.inl ⟨rfl, rfl⟩)
  | true =>
    rw [Bool.and_eq_true] at h
    simp only [if_true]
    by_cases hm : misRo R e = 0
    · rw [if_pos hm]
      rcases apply_right h.1 h.2 hm with h' | ⟨h1, h2⟩
      · exact .inl ⟨h'.1, h.1, h.2, hm, rfl, h'.2⟩
      · exact .inr (.inr ⟨by rw [h1]; decide, by rw [h1]; decide, h2, h.1⟩)
    · rw [if_neg hm]
      refine .inr (.inr ⟨hm, ?_, rfl, h.1⟩)
      show misRo R e ≠ 2
      unfold misRo
      (repeat' split) <;> decide
theorem fit_apply {R : Ro} {e : Ev} (hR : FitRo R) (he : FitE e) : FitRo (applyRo R e).1 := by
  have hz : FitRo zeroRo := ⟨by decide, (by intro x h; cases h), (by intro x h; cases h)⟩
  unfold applyRo
  split
  · split
    · unfold takeRo
      have h3 : FitR ⟨e.pf, e.act⟩ := ⟨⟨he.len, he.n⟩, he.act⟩
      have h5 : FitL ⟨e.iface, e.peer⟩ := ⟨he.iface, he.peer⟩
      by_cases k1 : e.kind = 1
      · rw [if_pos k1]; exact ⟨hR.id, hR.rts, hR.lks⟩
      rw [if_neg k1]
      by_cases k2 : e.kind = 2
      · rw [if_pos k2]; exact ⟨hR.id, (by intro x h; cases h), (by intro x h; cases h)⟩
      rw [if_neg k2]
      by_cases k3 : e.kind = 3
      · rw [if_pos k3]
        refine ⟨hR.id, fun x hx => ?_, hR.lks⟩
        change x ∈ (putT R.rts ⟨e.pf, e.act⟩).1 at hx
        unfold putT at hx
        split at hx
        · split at hx
          · exact hR.rts x hx
          · rcases Tr.insT_mem hx with rfl | hx
            · exact h3
            · exact hR.rts x hx
        · cases hx
      rw [if_neg k3]
      by_cases k4 : e.kind = 4
      · rw [if_pos k4]
        refine ⟨hR.id, fun x hx => ?_, hR.lks⟩
        change x ∈ (delT R.rts e.pf).1 at hx
        unfold delT at hx
        split at hx
        · exact hR.rts x (mem_othersT.1 hx).1
        · cases hx
      rw [if_neg k4]
      by_cases k5 : e.kind = 5
      · rw [if_pos k5]
        refine ⟨hR.id, hR.rts, fun x hx => ?_⟩
        change x ∈ (Lk.putL R.lks ⟨e.iface, e.peer⟩).1 at hx
        unfold Lk.putL at hx
        split at hx
        · split at hx
          · exact hR.lks x ((Lk.mem_others _ _ _).1 hx).1
          · rcases (Lk.mem_insL _ _ _).1 hx with rfl | hx
            · exact h5
            · exact hR.lks x hx.1
        · cases hx
      rw [if_neg k5]
      by_cases k6 : e.kind = 6
      · rw [if_pos k6]
        refine ⟨hR.id, hR.rts, fun x hx => ?_⟩
        change x ∈ (delL R.lks e.iface).1 at hx
        unfold delL at hx
        split at hx
        · exact hR.lks x ((Lk.mem_others _ _ _).1 hx).1
        · cases hx
      rw [if_neg k6]
      exact hR
    · exact hR
  · exact hz
theorem hop_none {R : Ro} (h : okRo R = true) (hr : R.rts = []) (six : Bool) (a : Nat) : hopRo R six a = ((0, 0), if rightB six a then 0 else 2) := by
  unfold hopRo
  rw [h]
  cases rightB six a
  · rfl
  · simp only [Bool.and_self, if_true]
    have : (longT R.rts six a).1.act.k = 0 := by
      rw [hr]
      unfold longT
      split <;> rfl
    unfold doesRo
    rw [this]
    rfl
def evP (k : Nat) (id : Int) (s : Nat) : Ev := ⟨k, id, s, 0, ⟨false, 0, 0⟩, ⟨0, 0⟩, 0, 0⟩
theorem ended {R : Ro} (h : (applyRo R (evP 2 R.id 1)).2 = 0) (six : Bool) (a : Nat) :
    (applyRo (applyRo R (evP 2 R.id 1)).1 (evP 1 R.id 2)).2 = 0 ∧ (applyRo (applyRo R (evP 2 R.id 1)).1 (evP 1 R.id 2)).1.up = true ∧ (hopRo (applyRo R (evP 2 R.id 1)).1 six a).2 = (hopRo (applyRo (applyRo R (evP 2 R.id 1)).1 (evP 1 R.id 2)).1 six a).2 ∧ (hopRo (applyRo R (evP 2 R.id 1)).1 six a).1 = (0, 0) ∧ (hopRo (applyRo (applyRo R (evP 2 R.id 1)).1 (evP 1 R.id 2)).1 six a).1 = (0, 0) := by
  rcases apply_cases R (evP 2 R.id 1) with ⟨_, h1, h2, h3, h4, h5, _⟩ | ⟨h1, _⟩ | ⟨h1, _⟩
  · have e1 : applyRo R (evP 2 R.id 1) = (⟨R.id, false, [], []⟩, 0) := by rw [h4]; rfl
    obtain ⟨r1, _⟩ := (okRo_iff R).1 h1
    have ok1 : okRo ⟨R.id, false, [], []⟩ = true := (okRo_iff _).2 ⟨r1, rfl, rfl, .inr ⟨rfl, rfl⟩⟩
    have ok2 : okRo ⟨R.id, true, [], []⟩ = true := (okRo_iff _).2 ⟨r1, rfl, rfl, .inl rfl⟩
    have e2 : applyRo ⟨R.id, false, [], []⟩ (evP 1 R.id 2) = (⟨R.id, true, [], []⟩, 0) := by
      unfold applyRo
      rw [ok1, show okE (evP 1 R.id 2) = true from okE_plain (.inl rfl) (.inr rfl) r1]
      simp only [Bool.and_self, if_true]
      have hm : misRo ⟨R.id, false, [], []⟩ (evP 1 R.id 2) = 0 := by
        unfold misRo evP
        simp
      rw [if_pos hm]
      rfl
    rw [e1]
    simp only
    rw [e2]
    simp only
    rw [hop_none ok1 rfl, hop_none ok2 rfl]
    exact ⟨trivial, trivial, rfl, rfl, rfl⟩
  · rw [h1] at h; cases h
  · exact absurd h h1
theorem back_route {R : Ro} {p : Pf} {act : Ac} (hn : ∀ y ∈ R.rts, y.pf ≠ p) (h : (applyRo R ⟨3, R.id, 1, 0, p, act, 0, 0⟩).2 = 0) :
    applyRo (applyRo R ⟨3, R.id, 1, 0, p, act, 0, 0⟩).1 ⟨4, R.id, 2, 0, p, ⟨0, 0⟩, 0, 0⟩ = (R, 0) := by
  rcases apply_cases R ⟨3, R.id, 1, 0, p, act, 0, 0⟩ with ⟨_, h1, h2, h3, h4, h5, _⟩ | ⟨h1, _⟩ | ⟨h1, _⟩
  · obtain ⟨r1, r2, r3, r4⟩ := (okRo_iff R).1 h1
    obtain ⟨e1, e2, e3, e4, e5, e6⟩ := okE_parts h2
    have hT : takeRo R ⟨3, R.id, 1, 0, p, act, 0, 0⟩ = (⟨R.id, R.up, (putT R.rts ⟨p, act⟩).1, R.lks⟩, (putT R.rts ⟨p, act⟩).2) := rfl
    rw [h4] at h h5 ⊢
    rw [hT] at h h5 ⊢
    simp only at h h5 ⊢
    obtain ⟨p1, p2, p3, p4⟩ := Tr.putT_ok h
    have hup : R.up = true := by
      unfold misRo at h3
      simp only [if_true] at h3
      cases hu : R.up
      · rw [hu] at h3; simp at h3
      · rfl
    have hok : okE ⟨4, R.id, 2, 0, p, ⟨0, 0⟩, 0, 0⟩ = true := by
      obtain ⟨i1, i2⟩ := (okId_iff _).1 r1
      refine okE_of ?_ ?_ ?_
      · unfold headB
        simp only [Bool.and_eq_true, decide_eq_true_eq]
        omega
      · unfold partsB
        rw [show okP p = true from e3]
        simp
      · rfl
    unfold applyRo
    rw [h5, hok]
    simp only [Bool.and_self, if_true]
    have hm : misRo ⟨R.id, R.up, (putT R.rts ⟨p, act⟩).1, R.lks⟩ ⟨4, R.id, 2, 0, p, ⟨0, 0⟩, 0, 0⟩ = 0 := by
      unfold misRo
      rw [hup]
      simp
    rw [if_pos hm]
    have hD : (delT (insT R.rts ⟨p, act⟩) p).1 = R.rts := by
      unfold delT
      rw [p4, show okP p = true from e3]
      simp only [Bool.and_self, if_true]
      have ho : othersT R.rts p = R.rts := Tr.filt_all (fun x hx => by simp [Tr.ordP_eq]; exact hn x hx)
      have ha : Tr.aheadT R.rts p ++ Tr.behindT R.rts p = R.rts := by
        have hlen := Tr.othersT_len R.rts p
        rw [ho] at hlen
        have hu := ((Tr.okT_iff _).1 r2).2.2
        clear hlen ho
        generalize R.rts = l at hn hu
        unfold Tr.aheadT Tr.behindT
        induction l with
        | nil => rfl
        | cons x l ih =>
          have hx := hn x List.mem_cons_self
          have hc := List.pairwise_cons.1 hu
          have ih := ih (fun y hy => hn y (List.mem_cons_of_mem _ hy)) hc.2
          rcases Int.lt_trichotomy (Tr.ordP x.pf p) 0 with h | h | h
          · rw [List.filter_cons_of_pos (by simp; omega), List.filter_cons_of_neg (by simp; omega), List.cons_append, ih]
          · exact absurd ((Tr.ordP_eq _ _).1 h) hx
          · rw [List.filter_cons_of_neg (by simp; omega), List.filter_cons_of_pos (by simp; omega)]
            have hall : ∀ y ∈ l, 0 < Tr.ordP y.pf p := fun y hy => (Tr.ordP_gt _ _).2 (Tr.ltP_trans ((Tr.ordP_gt _ _).1 h) (hc.1 y hy))
            rw [Tr.filt_none (fun y hy => by have := hall y hy; simp; omega), Tr.filt_all (fun y hy => by have := hall y hy; simp; omega)]
            rfl
      unfold insT othersT
      rw [List.filter_append, List.filter_append, Tr.filt_all (l := Tr.aheadT R.rts _) (fun x hx => by
        have := (List.mem_filter.1 hx).1
        simp [Tr.ordP_eq]; exact hn x this), Tr.filt_all (l := Tr.behindT R.rts _) (fun x hx => by
        have := (List.mem_filter.1 hx).1
        simp [Tr.ordP_eq]; exact hn x this), List.filter_cons_of_neg (by simp [Tr.ordP_eq])]
      exact ha
    have hT2 : takeRo ⟨R.id, R.up, (putT R.rts ⟨p, act⟩).1, R.lks⟩ ⟨4, R.id, 2, 0, p, ⟨0, 0⟩, 0, 0⟩ = (⟨R.id, R.up, (delT (putT R.rts ⟨p, act⟩).1 p).1, R.lks⟩, 0) := rfl
    rw [hT2, p3, hD]
  · rw [h1] at h; cases h
  · exact absurd h h1
theorem back_link {R : Ro} {x : Lk} (hn : ∀ y ∈ R.lks, y.iface ≠ x.iface) (h : (applyRo R ⟨5, R.id, 1, 0, ⟨false, 0, 0⟩, ⟨0, 0⟩, x.iface, x.peer⟩).2 = 0) :
    applyRo (applyRo R ⟨5, R.id, 1, 0, ⟨false, 0, 0⟩, ⟨0, 0⟩, x.iface, x.peer⟩).1 ⟨6, R.id, 2, 0, ⟨false, 0, 0⟩, ⟨0, 0⟩, x.iface, 0⟩ = (R, 0) := by
  rcases apply_cases R ⟨5, R.id, 1, 0, ⟨false, 0, 0⟩, ⟨0, 0⟩, x.iface, x.peer⟩ with ⟨_, h1, h2, h3, h4, h5, _⟩ | ⟨h1, _⟩ | ⟨h1, _⟩
  · obtain ⟨r1, r2, r3, r4⟩ := (okRo_iff R).1 h1
    obtain ⟨e1, e2, e3, e4, e5, e6⟩ := okE_parts h2
    have hT : takeRo R ⟨5, R.id, 1, 0, ⟨false, 0, 0⟩, ⟨0, 0⟩, x.iface, x.peer⟩ = (⟨R.id, R.up, R.rts, (Lk.putL R.lks x).1⟩, (Lk.putL R.lks x).2) := rfl
    rw [h4] at h h5 ⊢
    rw [hT] at h h5 ⊢
    simp only at h h5 ⊢
    obtain ⟨p1, p2, p3, p4⟩ := Lk.put_ok h
    have hup : R.up = true := by
      unfold misRo at h3
      simp only [if_true] at h3
      cases hu : R.up
      · rw [hu] at h3; simp at h3
      · rfl
    have hok : okE ⟨6, R.id, 2, 0, ⟨false, 0, 0⟩, ⟨0, 0⟩, x.iface, 0⟩ = true := by
      obtain ⟨i1, i2⟩ := (okId_iff _).1 r1
      simp only at e4
      refine okE_of ?_ ?_ ?_
      · unfold headB
        simp only [Bool.and_eq_true, decide_eq_true_eq]
        omega
      · unfold partsB
        rw [show okP (⟨false, 0, 0⟩ : Pf) = true from zero_ok]
        simp only [Bool.and_eq_true, decide_eq_true_eq, Bool.or_eq_true, true_and]
        exact ⟨⟨by omega, by omega⟩, .inl (by omega)⟩
      · rfl
    unfold applyRo
    rw [h5, hok]
    simp only [Bool.and_self, if_true]
    have hm : misRo ⟨R.id, R.up, R.rts, (Lk.putL R.lks x).1⟩ ⟨6, R.id, 2, 0, ⟨false, 0, 0⟩, ⟨0, 0⟩, x.iface, 0⟩ = 0 := by
      unfold misRo
      rw [hup]
      simp
    rw [if_pos hm]
    have hT2 : takeRo ⟨R.id, R.up, R.rts, (Lk.putL R.lks x).1⟩ ⟨6, R.id, 2, 0, ⟨false, 0, 0⟩, ⟨0, 0⟩, x.iface, 0⟩ = (⟨R.id, R.up, R.rts, (delL (Lk.putL R.lks x).1 x.iface).1⟩, 0) := rfl
    rw [hT2, p4, Lk.del_ins p1 p2 p3]
    have ho : others R.lks x.iface = R.lks := List.filter_eq_self.2 (fun y hy => by simp; exact hn y hy)
    rw [ho]
  · rw [h1] at h; cases h
  · exact absurd h h1
end Go.Proofs.Ytklbnnnkogghpaa.Fib
namespace Go.Proofs.Ytklbnnnkogghpaa.Tr
open Go.ChangeShapes Go.WideShapes Go.ChangeAt Go.RowKit
open Go.Proofs.Ytklbnnnkogghpaa.Msg (open_pf4 open_ac2)
open Go.Proofs.Ytklbnnnkogghpaa.Lk (HasRow row_of flat_get hasRow_nil)
section
variable {H : Type} {enc : TypeId × Value → H} {W : World} {base : Nat} {spare : Nat → Bool} {held : Bool}
set_option maxRecDepth 100000 in
theorem open_rt6 {c0 c1 c2 c3 c4 c5 : Value} {fuel : Nat} {d : DataW H × List MemPlace} (hf : DataW.trod enc Try.prog W base spare held fuel 61 [c0, c1, c2, c3, c4, c5] = some d) : ∃ r : Rt, [c0, c1, c2, c3, c4, c5] = rtC r ∧ FitR r := by
  obtain ⟨xs, n, _, _, hlen, hxl, hfs⟩ := DataW.trod_struct Try.underlying61 hf
  have g0 : DataW.trod enc Try.prog W base spare held n 38 ((([c0, c1, c2, c3, c4, c5] : List Value).drop 0).take (Try.prog.cellsOf 38)) = xs[0]? := hfs 0 _ rfl
  have g1 : DataW.trod enc Try.prog W base spare held n 44 ((([c0, c1, c2, c3, c4, c5] : List Value).drop 4).take (Try.prog.cellsOf 44)) = xs[1]? := hfs 1 _ rfl
  have hx2 : xs.length = 2 := hxl
  rw [List.getElem?_eq_getElem (by omega)] at g0 g1
  rw [show Try.prog.cellsOf 38 = 4 from by kernel_rfl] at g0
  rw [show Try.prog.cellsOf 44 = 2 from by kernel_rfl] at g1
  obtain ⟨p, r4, r5, r6, r7, b1, b2⟩ := open_pf4 (s := c0) (c := c1) (f := c2) (o := c3) g0
  obtain ⟨a, r8, r9, fa⟩ := open_ac2 (x := c4) (y := c5) g1
  subst r4 r5 r6 r7 r8 r9
  exact ⟨⟨p, a⟩, rfl, ⟨b1, b2⟩, fa⟩
set_option maxRecDepth 100000 in
theorem open_route {v : Value} {d : DataW H} {ps : List MemPlace} {r : Reach} {b0 : Nat} (hval : Value.okWide Try.prog W r b0 61 v) (h : DataW.Trod enc Try.prog W base spare held 61 v d ps) : ∃ a : Rt, v = rtV a ∧ FitR a := by
  obtain ⟨cs, rfl, hsz⟩ := okWide_struct Try.underlying61 hval
  obtain ⟨fuel, hf⟩ := h
  rw [show Try.prog.cellsOf 61 = 6 from by kernel_rfl] at hsz
  obtain ⟨c0, c1, c2, c3, c4, c5, rfl⟩ : ∃ c0 c1 c2 c3 c4 c5, cs = #[c0, c1, c2, c3, c4, c5] := by
    obtain ⟨l⟩ := cs
    match l, hsz with
    | [c0, c1, c2, c3, c4, c5], _ => exact ⟨c0, c1, c2, c3, c4, c5, rfl⟩
  obtain ⟨a, e, fa⟩ := open_rt6 hf
  exact ⟨a, by unfold rtV; rw [← e], fa⟩
set_option maxRecDepth 100000 in
theorem open_routes {v : Value} {fuel : Nat} {x : DataW H × List MemPlace} (h : DataW.trod enc Try.prog W base spare held fuel 22 [v] = some x) : ∃ l : List Rt, HasRts W v l ∧ ∀ s ∈ l, FitR s := by
  rcases Go.Deep.open_slice Try.underlying22 h with ⟨hcs, _⟩ | ⟨a, l, c, m, n, D, Pl, hcs, _, hl, hm, hmm, _, hx⟩
  · injection hcs with e; subst e
    exact ⟨[], hasRow_nil _ _, by simp⟩
  · injection hcs with e; subst e
    have hlm : l ≤ m := by rw [hmm]; split <;> omega
    have hA : ∀ i, ∃ p : Rt, i < l → (∀ j, j < 6 → W.cell? (a.add (i * 6 + j)) = (rtC p)[j]?) ∧ FitR p := fun i => by
      by_cases hi : i < l
      · obtain ⟨cs', h1, h2⟩ := hx i (by omega)
        rw [show Try.prog.cellsOf 61 = 6 from by kernel_rfl] at h1
        obtain ⟨_, hlen, hcell⟩ := World.cells?_some h1
        obtain ⟨c0, c1, c2, c3, c4, c5, rfl⟩ : ∃ c0 c1 c2 c3 c4 c5, cs' = [c0, c1, c2, c3, c4, c5] := by
          match cs', hlen with
          | [c0, c1, c2, c3, c4, c5], _ => exact ⟨c0, c1, c2, c3, c4, c5, rfl⟩
        obtain ⟨s, es, fs⟩ := open_rt6 h2
        refine ⟨s, fun _ => ⟨fun j hj => ?_, fs⟩⟩
        rw [← es]
        have := hcell j hj
        rw [Go.Deep.add_add] at this
        rw [this]
      · exact ⟨⟨⟨false, 0, 0⟩, ⟨0, 0⟩⟩, fun h => absurd h hi⟩
    obtain ⟨F, hF⟩ := Classical.axiomOfChoice hA
    refine ⟨(List.range l).map F, ?_, fun p hp => ?_⟩
    · unfold HasRts
      rw [List.length_map, List.length_range]
      refine row_of (by decide) hl hm (by rw [rtCs_len]; simp) (fun j hj => ?_)
      have hj2 : j / 6 < l := by omega
      obtain ⟨hc, _⟩ := hF (j / 6) hj2
      show _ = (((List.range l).map F).flatMap rtC)[j]?
      rw [flat_get rtC 6 (by decide) (fun x => rfl) _ j (by simp; omega)]
      simp only [List.getElem_map, List.getElem_range]
      rw [← hc (j % 6) (by omega)]
      congr 2
      omega
    · obtain ⟨i, hi, rfl⟩ := List.mem_map.1 hp
      exact (hF i (List.mem_range.1 hi)).2
end
end Go.Proofs.Ytklbnnnkogghpaa.Tr
namespace Go.Proofs.Ytklbnnnkogghpaa.Fib
open Go.ChangeShapes Go.WideShapes Go.ChangeAt Go.RowKit
open Go.Proofs.Ytklbnnnkogghpaa.Lk (HasLks FitL)
open Go.Proofs.Ytklbnnnkogghpaa.Tr (HasRts FitR)
section
variable {H : Type} {enc : TypeId × Value → H} {W : World} {base : Nat} {spare : Nat → Bool} {held : Bool}
set_option maxRecDepth 100000 in
theorem open_ro4 {i o s c : Value} {fuel : Nat} {d : DataW H × List MemPlace} (hf : DataW.trod enc Try.prog W base spare held fuel 25 [i, o, s, c] = some d) : ∃ R : Ro, i = .int .i64 R.id ∧ o = .bool R.up ∧ HasRts W s R.rts ∧ HasLks W c R.lks ∧ FitRo R := by
  obtain ⟨xs, n, _, _, hlen, hxl, hfs⟩ := DataW.trod_struct Try.underlying25 hf
  have g0 : DataW.trod enc Try.prog W base spare held n 3 ((([i, o, s, c] : List Value).drop 0).take (Try.prog.cellsOf 3)) = xs[0]? := hfs 0 _ rfl
  have g1 : DataW.trod enc Try.prog W base spare held n 4 ((([i, o, s, c] : List Value).drop 1).take (Try.prog.cellsOf 4)) = xs[1]? := hfs 1 _ rfl
  have g2 : DataW.trod enc Try.prog W base spare held n 22 ((([i, o, s, c] : List Value).drop 2).take (Try.prog.cellsOf 22)) = xs[2]? := hfs 2 _ rfl
  have g3 : DataW.trod enc Try.prog W base spare held n 23 ((([i, o, s, c] : List Value).drop 3).take (Try.prog.cellsOf 23)) = xs[3]? := hfs 3 _ rfl
  have hx4 : xs.length = 4 := hxl
  rw [List.getElem?_eq_getElem (by omega)] at g0 g1 g2 g3
  rw [show Try.prog.cellsOf 3 = 1 from by kernel_rfl] at g0
  rw [show Try.prog.cellsOf 4 = 1 from by kernel_rfl] at g1
  rw [show Try.prog.cellsOf 22 = 1 from by kernel_rfl] at g2
  rw [show Try.prog.cellsOf 23 = 1 from by kernel_rfl] at g3
  obtain ⟨zs, hs, hzl⟩ := Tr.open_routes (v := s) g2
  obtain ⟨qs, hp, hql⟩ := Lk.open_links (v := c) g3
  obtain ⟨fu, e2, _, hw⟩ := DataW.trod_int Try.underlying3 g0
  obtain ⟨ob, e3, _⟩ := DataW.trod_bool Try.underlying4 g1
  have e2' : i = .int .i64 fu := by injection e2
  have e3' : o = .bool ob := by injection e3
  exact ⟨⟨fu, ob, zs, qs⟩, e2', e3', hs, hp, Lk.wfi hw, hzl, hql⟩
set_option maxRecDepth 100000 in
theorem open_router {v : Value} {d : DataW H} {ps : List MemPlace} {r : Reach} {b0 : Nat} (hval : Value.okWide Try.prog W r b0 25 v) (h : DataW.Trod enc Try.prog W base spare held 25 v d ps) : ∃ (R : Ro) (a b : Value), v = .agg #[.int .i64 R.id, .bool R.up, a, b] ∧ HasRts W a R.rts ∧ HasLks W b R.lks ∧ FitRo R := by
  obtain ⟨cs, rfl, hsz⟩ := okWide_struct Try.underlying25 hval
  obtain ⟨fuel, hf⟩ := h
  rw [show Try.prog.cellsOf 25 = 4 from by kernel_rfl] at hsz
  obtain ⟨i, o, s, c, rfl⟩ : ∃ i o s c, cs = #[i, o, s, c] := by
    obtain ⟨l⟩ := cs
    match l, hsz with
    | [i, o, s, c], _ => exact ⟨i, o, s, c, rfl⟩
  obtain ⟨R, rfl, rfl, h1, h2, h3⟩ := open_ro4 hf
  exact ⟨R, s, c, rfl, h1, h2, h3⟩
end
end Go.Proofs.Ytklbnnnkogghpaa.Fib
