/- trie.Find. -/
import Derived.Test.YtaaedgfacnaggaaTs13
import Derived.BigQuiet
import Derived.Deep.AppendLies
import Derived.Shelf.Slices.Clone
import Derived.Laws.Cover3
import Derived.Test.YtaaedgfacnaggaaTs09
import Derived.Test.YtaaedgfacnaggaaTs08
import Derived.Laws.ResultCell
import Derived.Deep.RegionHeld3
set_option linter.unusedVariables false
namespace Go.Proofs.Ytaaedgfacnaggaa.Lk
open Go.RowKit
attribute [-go_sem] Builtin.append_
theorem info_parts {e sz by' : Nat} {z : Value} (h : (Try.prog.info? e).map (fun i => (i.zero, i.size, i.bytes)) = some (some z, sz, by')) : ∃ i, Try.prog.info? e = some i ∧ i.zero = some z ∧ i.size = sz ∧ i.bytes = by' := by
  cases hi : Try.prog.info? e with
  | none => rw [hi] at h; cases h
  | some i =>
    rw [hi] at h
    simp only [Option.map_some, Option.some.injEq, Prod.mk.injEq] at h
    exact ⟨i, rfl, h.1, h.2.1, h.2.2⟩
def Dist (u v : Value) : Prop := ∀ k, u.ownBlock = some k → v.ownBlock ≠ some k
theorem Dist.symm {u v : Value} (h : Dist u v) : Dist v u := fun k hk hc => h k hc hk
end Go.Proofs.Ytaaedgfacnaggaa.Lk
namespace Go.Proofs.Ytaaedgfacnaggaa.Lk
open Go.RowKit Go.Shelf
attribute [-go_sem] Builtin.append_
theorem append_row {e tS sz bytes : Nat} {z : Value} (hi : (Try.prog.info? e).map (fun i => (i.zero, i.size, i.bytes)) = some (some z, sz, bytes)) (hu : Try.prog.underlying tS = some (.slice e)) (hz : z.cells.size = sz) (hsz : 0 < sz)
    {W : World} {n₀ k m : Nat} {v u : Value} {xs news : List Value} (hown : W.ownsRow n₀ e sz v k xs) (hsrc : HasRow W u sz m news) (h1 : ∀ x ∈ news, x.oneCell' = true) (hb : (k + m) * bytes ≤ 140737488355328) (hkm : k + m ≤ 9223372036854775807) (hn : n₀ ≤ W.heap.size) :
    ∃ v' w3, (∀ ty, (Builtin.append_ #[tS, tS] ty #[v, u]).run Try.prog W = .ok v' w3) ∧ w3.ownsRow n₀ e sz v' (k + m) (xs ++ news) ∧ W.grownBy w3 v.ownBlock := by
  obtain ⟨i0, hi0, hz0, hz1, hz2⟩ := info_parts hi
  rcases hsrc.2 with ⟨rfl, rfl⟩ | ⟨a, cap, rfl, g1, g2, g3, g4⟩
  · obtain rfl : news = [] := List.eq_nil_of_length_eq_zero (by rw [hsrc.1]; simp)
    have := fun ty => run_append_owned_none (P := Try.prog) W n₀ tS ty e i0 sz hu hi0 v k xs hown
    exact ⟨v, W, this, by simpa using hown, World.grownBy.refl _ _⟩
  · have h := run_append_own (P := Try.prog) W n₀ tS 0 e i0 z sz bytes hu hi0 hz0 hz1 hz2 hz hsz v k xs hown a m cap news hsrc.1
      (fun j x hj => by rw [g4 j (by rw [← hsrc.1]; exact (List.getElem?_eq_some_iff.1 hj).1)]; exact hj) h1 (by unfold maxLen; omega) hb hn
    obtain ⟨v', w3, hrun, k1, k2, _⟩ := h
    exact ⟨v', w3, fun ty => hrun, k1, k2⟩
end Go.Proofs.Ytaaedgfacnaggaa.Lk
namespace Go.Proofs.Ytaaedgfacnaggaa.Tr
open Go.RowKit Go.Shelf
open Go.Proofs.Ytaaedgfacnaggaa.Lk (append_row)
open Go.Proofs.Ytaaedgfacnaggaa.Addr (hiN loN RowAt below2 RowAt.lt RowAt.cell RowAt.below RowAt.new RowAt.alloc)
attribute [-go_sem] Builtin.append_
/-- a row of a call's own -/
structure Own1 (w W : World) (u : Value) (a : List Rt) : Prop where
  ou : W.ownsRow w.heap.size 37 6 u a.length (rtCs a)
  bl : Below w.heap.size w W
theorem Own1.below {w W W' : World} {u : Value} {a : List Rt} (h : Own1 w W u a) (hb : Below W.heap.size W W') : Own1 w W' u a := ⟨own_below h.ou hb, below2 h.bl hb⟩
theorem Own1.app {w W : World} {u x : Value} {a m : List Rt} (h : Own1 w W u a) (hx : HasRts W x m) (hb : a.length + m.length ≤ 1000000) :
    ∃ v' w3, (∀ ty, (Builtin.append_ #[22, 22] ty #[u, x]).run Try.prog W = .ok v' w3) ∧ Own1 w w3 v' (a ++ m) := by
  obtain ⟨v', w3, hrun, h1, h2⟩ := append_row info_rt Try.underlying22 rfl (by decide) h.ou hx (one_routes m) (by omega) (by omega) h.bl.size
  refine ⟨v', w3, hrun, by rw [← List.length_append, ← rtCs_app] at h1; exact h1, ?_⟩
  exact h.bl.grown h2 h.bl.size (fun k e => (h.ou.lt k e).1)
theorem lit_rt (W : World) (x : Rt) : HasRts (W.alloc (.cells #[.bool x.pf.six, .int .u64 (hiN x.pf.n : Int), .int .u64 (loN x.pf.n : Int), .int .i64 x.pf.len, .int .u8 (x.act.k : Int), .int .i64 x.act.i] 37)) (.slice (some ⟨W.heap.size, 0, none⟩) 1 1) [x] := by
  refine ⟨rfl, .inr ⟨⟨W.heap.size, 0, none⟩, 1, rfl, Nat.le_refl _, by decide, fun _ => ⟨rfl, by simp⟩, fun j hj => ?_⟩⟩
  rw [Lk.addr_add, Nat.zero_add]
  exact (RowAt.new W (rtC x) 37).cell j
theorem filter_snocR (p : Rt → Bool) (l : List Rt) (k : Nat) (h : k < l.length) : (l.take (k + 1)).filter p = (l.take k).filter p ++ (if p l[k] then [l[k]] else []) := by
  rw [List.take_succ_eq_append_getElem h, List.filter_append]
  congr 1
  cases hp : p l[k] <;> simp [hp]
theorem filter_leR (p : Rt → Bool) (l : List Rt) (k : Nat) : ((l.take k).filter p).length ≤ l.length := Nat.le_trans (List.length_filter_le _ _) (by rw [List.length_take]; omega)
end Go.Proofs.Ytaaedgfacnaggaa.Tr
namespace Go.Proofs.Ytaaedgfacnaggaa.Tr
open Go.RowKit Go.Shelf
open Go.Proofs.Ytaaedgfacnaggaa.Addr (Pf okP)
def findO (l : List Rt) (p : Pf) : Rt × Int := match findT l p with | some s => (s, 0) | none => (zeroR, 3)
def findE (l : List Rt) (p : Pf) : Rt × Int := if okT l && okP p then findO l p else (zeroR, 2)
theorem findT_at {l : List Rt} {p : Pf} {k : Nat} (hk : k < l.length) (h : l[k].pf = p) (h2 : ∀ j (hj : j < l.length), j < k → l[j].pf ≠ p) : findT l p = some l[k] := by
  unfold findT
  rw [List.find?_eq_some_iff_getElem]
  refine ⟨by rw [decide_eq_true_eq, ordP_eq]; exact h, k, hk, rfl, fun j hj => ?_⟩
  have := h2 j (by omega) hj
  simp [ordP_eq]; exact this
end Go.Proofs.Ytaaedgfacnaggaa.Tr
namespace Go.Proofs.Ytaaedgfacnaggaa.Tr
open Go.RowKit
open Go.Proofs.Ytaaedgfacnaggaa.Lk (HasRow)
open Go.Proofs.Ytaaedgfacnaggaa.Addr (Pf okP hiN loN RowAt below2 below_drew below_new RowAt.lt RowAt.cell RowAt.below RowAt.drew RowAt.new RowAt.alloc cells4)
attribute [-go_sem] Builtin.append_
/-- the row of two parts -/
theorem two_rows {W : World} {la lc : List Rt} {oa oc : Option Addr} {na nc ca cc : Nat} (ea : na = la.length) (ec : nc = lc.length) (ha : HasRts W (.slice oa na ca) la) (hc : HasRts W (.slice oc nc cc) lc) (h1 : na ≤ 1000) (h2 : nc ≤ 1000) :
    Calls Try.prog 30 #[.slice (some ⟨W.heap.size, 0, none⟩) 2 2] (W.alloc (.cells #[.slice oa na ca, .slice oc nc cc] 22)) fun e w' => ∃ v, e = .returned v ∧ HasRts w' v (la ++ lc) ∧ Below W.heap.size W w' := by
  obtain ⟨Z, hZ⟩ : ∃ Z, Z = W.alloc (.cells #[.slice oa na ca, .slice oc nc cc] 22) := ⟨_, rfl⟩
  have hbZ : Below W.heap.size W Z := by rw [hZ]; exact below_new (Below.refl _ _) _
  have rZ : RowAt Z W.heap.size [.slice oa na ca, .slice oc nc cc] 22 := by rw [hZ]; exact RowAt.new _ _ _
  rw [← hZ]
  clear hZ
  refine (concat2_any W.heap.size la lc oa oc na nc ca cc Z rZ.lt (rZ.cell 0) (rZ.cell 1) ea ec (ha.keep hbZ) (hc.keep hbZ) h1 h2).mono ?_
  rintro e w' ⟨v, rfl, ho, hb⟩
  exact ⟨v, rfl, hasRow_own ho, below2 hbZ hb⟩
set_option maxHeartbeats 8000000 in
set_option maxRecDepth 20000 in
theorem del_any (l : List Rt) (v : Value) (p : Pf) (w : World) (hl : HasRts w v l) (hf : ∀ x ∈ l, FitR x) (hp : FitP p) :
    Calls Try.prog 17 #[v, .agg #[.bool p.six, .int .u64 (hiN p.n : Int), .int .u64 (loN p.n : Int), .int .i64 p.len]] w fun e w' => ∃ u, e = .returned (.tuple #[u, .int .i64 (delT l p).2]) ∧ HasRts w' u (delT l p).1 ∧ Below w.heap.size w w' := by
  obtain ⟨o, c, rfl, hc1, hc2⟩ := Lk.HasRow.slice hl
  have cc := fun W (hb : Below w.heap.size w W) => check_any l _ W (hl.keep hb) hf
  have c1 : ∀ W, Calls Try.prog 32 #[.agg #[.bool p.six, .int .u64 (hiN p.n : Int), .int .u64 (loN p.n : Int), .int .i64 p.len]] W fun e w' => e = .returned (.int .i64 (if okP p then 0 else 2)) ∧ Below W.heap.size W w' := fun W => Addr.check_any p W hp.1 hp.2
  have hck : checkT l = if okT l then 0 else 2 := rfl
  rw [hck] at cc
  have hPd : delT l p = if okT l && okP p then (othersT l p, if (othersT l p).length = l.length then 3 else 0) else ([], 2) := rfl
  obtain ⟨X, hX⟩ : ∃ X, X = w.alloc (.cells #[.bool p.six, .int .u64 (hiN p.n : Int), .int .u64 (loN p.n : Int), .int .i64 p.len] 32) := ⟨_, rfl⟩
  have hB : Below w.heap.size w X := by rw [hX]; exact below_new (Below.refl _ _) _
  have r0 : RowAt X w.heap.size [.bool p.six, .int .u64 (hiN p.n : Int), .int .u64 (loN p.n : Int), .int .i64 p.len] 32 := by rw [hX]; exact RowAt.new _ _ _
  cases hok : okT l
  · rw [hok] at cc hPd
    simp only [Bool.false_eq_true, if_false, Bool.false_and] at cc hPd
    rw [hPd]
    clear hPd
    go_enter Try.func17, Try.ntmps17
    go_upto_region 1 with fail
    rw [← hX]
    clear hX
    go_wp2_with fail
    go_at_call 9; refine (cc _ hB).mono ?_; rintro e w1 ⟨rfl, hb1⟩
    go_wp2_with fail
    go_ret2
    exact ⟨_, rfl, Lk.hasRow_nil _ 6, below2 hB hb1⟩
  rw [hok] at cc hPd
  simp only [if_true, Bool.true_and] at cc hPd
  cases hox : okP p
  · rw [hox] at c1 hPd
    simp only [Bool.false_eq_true, if_false] at c1 hPd
    rw [hPd]
    clear hPd
    go_enter Try.func17, Try.ntmps17
    go_upto_region 1 with fail
    rw [← hX]
    clear hX
    go_wp2_with fail
    go_at_call 9; refine (cc _ hB).mono ?_; rintro e w1 ⟨rfl, hb1⟩
    replace r0 := RowAt.below r0 hb1
    obtain ⟨y0, y1, y2, y3, yf⟩ := cells4 r0
    go_wp2_with fail
    go_at_call 32; refine (c1 _).mono ?_; rintro e w2 ⟨rfl, hb2⟩
    go_wp2_with fail
    go_ret2
    exact ⟨_, rfl, Lk.hasRow_nil _ 6, below2 (below2 hB hb1) hb2⟩
  rw [hox] at c1 hPd
  simp only [if_true] at c1 hPd
  have hlen : l.length ≤ 256 := ((okT_iff l).1 hok).1
  have hup : Up l := ((okT_iff l).1 hok).2.2
  have cp := fun W (hb : Below w.heap.size w W) => place_any l _ p W (hl.keep hb) hup hf hp hlen
  have ck := fun W (hb : Below w.heap.size w W) => clone_any l _ W (hl.keep hb) (by omega)
  rw [hPd]
  obtain ⟨PL, hPL⟩ : ∃ PL, PL = ((othersT l p, if (othersT l p).length = l.length then 3 else 0) : List Rt × Int) := ⟨_, rfl⟩
  rw [← hPL]
  have HP : Hid (PL = ((othersT l p, if (othersT l p).length = l.length then 3 else 0) : List Rt × Int)) := hPL
  clear hPL hPd hck
  have HL : Hid (∀ W, Below w.heap.size w W → HasRts W (.slice o l.length c) l) := fun W hb => hl.keep hb
  obtain ⟨n, hn⟩ : ∃ n, n = l.length := ⟨_, rfl⟩
  have HN : Hid (n = l.length) := hn
  have H3 : Hid (∀ (W : World) (la lc : List Rt) (oa oc : Option Addr) (na nc ca cc : Nat), na = la.length → nc = lc.length → HasRts W (.slice oa na ca) la → HasRts W (.slice oc nc cc) lc → na ≤ 1000 → nc ≤ 1000 → Calls Try.prog 30 #[.slice (some ⟨W.heap.size, 0, none⟩) 2 2] (W.alloc (.cells #[.slice oa na ca, .slice oc nc cc] 22)) fun e w' => ∃ v, e = .returned v ∧ HasRts w' v (la ++ lc) ∧ Below W.heap.size W w') := fun W la lc oa oc na nc ca cc a b c d e f => two_rows a b c d e f
  have HPA : Hid (∀ k, Pos l p k → isAt l p k = true → ∃ h : k < l.length, l[k].pf = p ∧ l.take k = aheadT l p ∧ l.drop (k + 1) = behindT l p ∧ othersT l p = l.take k ++ l.drop (k + 1)) := fun k a b => parts_at hup a b
  have HPO : Hid (∀ k, Pos l p k → isAt l p k = false → l.take k = aheadT l p ∧ l.drop k = behindT l p ∧ othersT l p = l) := fun k a b => parts_off hup a b
  rw [← hn] at hc1 hlen cc cp ck ⊢
  have HL2 : Hid (∀ W, Below w.heap.size w W → HasRts W (.slice o n c) l) := by rw [hn]; exact HL
  have hni : (n : Int) ≤ 256 := by omega
  clear hl hf hn HL hup
  go_enter Try.func17, Try.ntmps17
  go_upto_region 1 with fail
  rw [← hX]
  clear hX
  go_wp2_with fail
  go_at_call 9; refine (cc _ hB).mono ?_; rintro e w1 ⟨rfl, hb1⟩
  replace r0 := RowAt.below r0 hb1
  replace hB := below2 hB hb1
  obtain ⟨y0, y1, y2, y3, yf⟩ := cells4 r0
  clear hb1 cc
  go_wp2_with fail
  clear y0 y1 y2 y3 yf
  go_at_call 32; refine (c1 _).mono ?_; rintro e w2 ⟨rfl, hb2⟩
  replace r0 := RowAt.below r0 hb2
  replace hB := below2 hB hb2
  obtain ⟨y0, y1, y2, y3, yf⟩ := cells4 r0
  clear hb2 c1
  go_wp2_with fail
  clear y0 y1 y2 y3 yf
  go_at_call 29; refine (cp _ hB).mono ?_; rintro e w3 ⟨k, hk, rfl, hb3⟩
  replace hB := below2 hB hb3
  clear hb3 cp r0
  have hkn : k ≤ n := by rw [HN.out]; exact hk.1
  have hki : (k : Int) ≤ (n : Int) := by omega
  cases hat : isAt l p k
  · obtain ⟨q1, q2, q3⟩ := HPO.out k hk hat
    have HPV : Hid (PL = (l, 3)) := by show _ = _; rw [HP.out, q3, if_pos rfl]
    clear HP HPA HPO q1 q2 q3 H3
    go_wp2_with fail
    go_at_call 31; refine (ck _ hB).mono ?_; rintro e w4 ⟨u4, rfl, ho4, hb4⟩
    have hh : HasRts w4 u4 l := by have h := hasRow_own ho4; rw [HN.out] at h; exact h
    go_wp2_with fail
    go_ret2
    exact ⟨_, by rw [HPV.out]; rfl, by rw [HPV.out]; exact hh, below2 hB hb4⟩
  · obtain ⟨hkl, q0, q1, q2, q3⟩ := HPA.out k hk hat
    have hkn2 : k + 1 ≤ n := by rw [HN.out]; exact hkl
    have HPV : Hid (PL = (l.take k ++ l.drop (k + 1), 0)) := by
      show _ = _
      rw [HP.out, q3, if_neg (by rw [List.length_append, List.length_take, List.length_drop]; omega)]
    have hlw := HL2.out _ hB
    clear HP HPA HPO ck q0 q1 q2 q3
    obtain ⟨b, i, rfl⟩ : ∃ b i, o = some ⟨b, i, none⟩ := by
      obtain ⟨_, b, i, e, _⟩ := Lk.HasRow.at hlw (by rw [← HN.out]; omega)
      exact ⟨b, i, e⟩
    have hta := hlw.take k (by rw [← HN.out]; exact hkn)
    have hkc : (k : Int) ≤ (c : Int) := by omega
    have hk1n : (k : Int) + 1 ≤ (n : Int) := by omega
    have hk1c : (k : Int) + 1 ≤ (c : Int) := by omega
    have hk10 : (0 : Int) ≤ (k : Int) + 1 := by omega
    have hw1 : IntKind.i64.wrap ((k : Int) + 1) = (k : Int) + 1 := by rw [IntKind.wrap_i64]; omega
    have htn : ((k : Int) + 1).toNat = k + 1 := by omega
    by_cases hck : c = k + 1
    · have hnk : n = k + 1 := by omega
      have hbe : l.drop (k + 1) = [] := List.drop_of_length_le (by rw [← HN.out]; omega)
      have hle : ∀ a' c', c' ≤ 9223372036854775807 → HasRts w3 (.slice (some a') 0 c') (l.drop (k + 1)) := fun a' c' h => by rw [hbe]; exact has_empty _ _ _ h
      subst hck hnk
      have hkk : (k : Int) ≤ (k : Int) + 1 := by omega
      have h3 := fun a' => H3.out w3.drew _ _ (some ⟨b, i, none⟩) (some a') k 0 (k + 1) 0 (by rw [List.length_take]; have := HN.out; omega) (by rw [hbe]; rfl) hta (hle a' 0 (by omega)) (by omega) (by omega)
      clear hta hle hlw hbe
      have hbA : Below w3.heap.size w3 w3 := Below.refl _ _
      have hd0 : ¬ False := id
      clear HL2 H3
      go_wp2_with fail
      go_region_held3 (fun _ => True)
        (first | trivial)
        (first
          | (go_at_call 30; refine (h3 _).mono ?_; rintro e w4 ⟨u4, rfl, hh4, hb4⟩
             have hbN : Below w3.heap.size w3 w4 := below2 (below_drew hbA) hb4
             clear hbA
             have hbA := hbN
             clear hbN))
      all_goals go_wp2_with fail
      all_goals go_ret2
      all_goals exact ⟨_, by rw [HPV.out]; rfl, by rw [HPV.out]; exact hh4, below2 hB hbA⟩
    · have hdr := hlw.drop (k + 1) (by rw [← HN.out]; exact hkn2)
      rw [← HN.out] at hdr
      have h3 := H3.out w3.drew _ _ _ _ k (n - (k + 1)) c (c - (k + 1)) (by rw [List.length_take]; have := HN.out; omega) (by rw [List.length_drop, ← HN.out]) hta hdr (by omega) (by omega)
      clear hta hdr hlw
      have hbA : Below w3.heap.size w3 w3 := Below.refl _ _
      have hd0 : ¬ False := id
      clear HL2 H3
      go_wp2_with fail
      go_region_held3 (fun _ => True)
        (first | trivial)
        (first
          | (go_at_call 30; refine (h3 : Calls _ _ _ _ _).mono ?_; rintro e w4 ⟨u4, rfl, hh4, hb4⟩
             have hbN : Below w3.heap.size w3 w4 := below2 (below_drew hbA) hb4
             clear hbA
             have hbA := hbN
             clear hbN))
      all_goals go_wp2_with fail
      all_goals go_ret2
      all_goals exact ⟨_, by rw [HPV.out]; rfl, by rw [HPV.out]; exact hh4, below2 hB hbA⟩
end Go.Proofs.Ytaaedgfacnaggaa.Tr
namespace Go.Proofs.Ytaaedgfacnaggaa.Tr
open Go.RowKit
open Go.Proofs.Ytaaedgfacnaggaa.Addr (Pf okP hiN loN RowAt below2 below_new bset RowAt.lt RowAt.cell RowAt.below RowAt.new RowAt.alloc cells4)
set_option maxHeartbeats 2000000 in
set_option maxRecDepth 20000 in
theorem find_bad1 (o : Option Addr) (n c : Nat) (six : Bool) (p1 p2 len : Int) (k : Nat) (w : World)
    (cc : ∀ W, Below w.heap.size w W → Calls Try.prog 9 #[.slice o n c] W fun e w' => e = .returned (.int .i64 2) ∧ Below W.heap.size W w')
    : Calls Try.prog 16 #[.slice o n c, .agg #[.bool six, .int .u64 p1, .int .u64 p2, .int .i64 len]] w fun e w' => e = .returned (.tuple #[.agg #[.bool false, .int .u64 0, .int .u64 0, .int .i64 0, .int .u8 0, .int .i64 0], .int .i64 2]) ∧ Below w.heap.size w w' := by
  obtain ⟨X, hX⟩ : ∃ X, X = (w.alloc (.cells #[.bool six, .int .u64 p1, .int .u64 p2, .int .i64 len] 32)).alloc (.cells #[.bool false, .int .u64 0, .int .u64 0, .int .i64 0, .int .u8 0, .int .i64 0] 37) := ⟨_, rfl⟩
  have hB : Below w.heap.size w X := by rw [hX]; exact below_new (below_new (Below.refl _ _) _) _
  obtain ⟨g0, hg0⟩ : ∃ g, g = w.heap.size := ⟨_, rfl⟩
  obtain ⟨g1, hg1⟩ : ∃ g, g = w.heap.size + 1 := ⟨_, rfl⟩
  have r0 : RowAt X g0 [.bool six, .int .u64 p1, .int .u64 p2, .int .i64 len] 32 := by
    rw [hX, hg0]; exact (RowAt.new w [.bool six, .int .u64 p1, .int .u64 p2, .int .i64 len] 32).alloc (.cells #[.bool false, .int .u64 0, .int .u64 0, .int .i64 0, .int .u8 0, .int .i64 0] 37)
  have r1 : RowAt X g1 [.bool false, .int .u64 0, .int .u64 0, .int .i64 0, .int .u8 0, .int .i64 0] 37 := by
    have h := RowAt.new (w.alloc (.cells #[.bool six, .int .u64 p1, .int .u64 p2, .int .i64 len] 32)) [.bool false, .int .u64 0, .int .u64 0, .int .i64 0, .int .u8 0, .int .i64 0] 37
    rw [World.size_alloc] at h
    rw [hX, hg1]; exact h
  have hgw : w.heap.size ≤ g1 := by omega
  have hne : g0 ≠ g1 := by omega
  go_enter Try.func16, Try.ntmps16
  go_upto_region 1 with fail
  rw [← hX, ← hg1, ← hg0]
  clear hX hg0 hg1
  go_wp2_with fail
  go_at_call 9; refine (cc _ hB).mono ?_; rintro e w1 ⟨rfl, hb⟩
  replace r0 := RowAt.below r0 hb
  replace r1 := RowAt.below r1 hb
  replace hB := below2 hB hb
  clear hb cc
  obtain ⟨q0, q1, q2, q3, q4, q5, qf⟩ := six_of r1
  have ql := RowAt.lt r1
  have HW : Hid (Below w.heap.size w w1) := hB
  clear r0 r1 hB
  go_wp2_with fail
  (try simp only [Exit.inBlock, Exit.then])
  refine bodyPost_ret (v := .tuple #[.agg #[.bool false, .int .u64 0, .int .u64 0, .int .i64 0, .int .u8 0, .int .i64 0], .int .i64 2]) ?_ rfl ⟨rfl, bset (bset (bset (bset (bset (bset HW.out (by omega)) (by omega)) (by omega)) (by omega)) (by omega)) (by omega)⟩
  rw [results_cell_tmp1 rfl]
  go_simp
set_option maxHeartbeats 2000000 in
set_option maxRecDepth 20000 in
theorem find_bad2 (o : Option Addr) (n c : Nat) (six : Bool) (p1 p2 len : Int) (k : Nat) (w : World)
    (cc : ∀ W, Below w.heap.size w W → Calls Try.prog 9 #[.slice o n c] W fun e w' => e = .returned (.int .i64 0) ∧ Below W.heap.size W w')
    (c1 : ∀ W, Calls Try.prog 32 #[.agg #[.bool six, .int .u64 p1, .int .u64 p2, .int .i64 len]] W fun e w' => e = .returned (.int .i64 2) ∧ Below W.heap.size W w')
    : Calls Try.prog 16 #[.slice o n c, .agg #[.bool six, .int .u64 p1, .int .u64 p2, .int .i64 len]] w fun e w' => e = .returned (.tuple #[.agg #[.bool false, .int .u64 0, .int .u64 0, .int .i64 0, .int .u8 0, .int .i64 0], .int .i64 2]) ∧ Below w.heap.size w w' := by
  obtain ⟨X, hX⟩ : ∃ X, X = (w.alloc (.cells #[.bool six, .int .u64 p1, .int .u64 p2, .int .i64 len] 32)).alloc (.cells #[.bool false, .int .u64 0, .int .u64 0, .int .i64 0, .int .u8 0, .int .i64 0] 37) := ⟨_, rfl⟩
  have hB : Below w.heap.size w X := by rw [hX]; exact below_new (below_new (Below.refl _ _) _) _
  obtain ⟨g0, hg0⟩ : ∃ g, g = w.heap.size := ⟨_, rfl⟩
  obtain ⟨g1, hg1⟩ : ∃ g, g = w.heap.size + 1 := ⟨_, rfl⟩
  have r0 : RowAt X g0 [.bool six, .int .u64 p1, .int .u64 p2, .int .i64 len] 32 := by
    rw [hX, hg0]; exact (RowAt.new w [.bool six, .int .u64 p1, .int .u64 p2, .int .i64 len] 32).alloc (.cells #[.bool false, .int .u64 0, .int .u64 0, .int .i64 0, .int .u8 0, .int .i64 0] 37)
  have r1 : RowAt X g1 [.bool false, .int .u64 0, .int .u64 0, .int .i64 0, .int .u8 0, .int .i64 0] 37 := by
    have h := RowAt.new (w.alloc (.cells #[.bool six, .int .u64 p1, .int .u64 p2, .int .i64 len] 32)) [.bool false, .int .u64 0, .int .u64 0, .int .i64 0, .int .u8 0, .int .i64 0] 37
    rw [World.size_alloc] at h
    rw [hX, hg1]; exact h
  have hgw : w.heap.size ≤ g1 := by omega
  have hne : g0 ≠ g1 := by omega
  go_enter Try.func16, Try.ntmps16
  go_upto_region 1 with fail
  rw [← hX, ← hg1, ← hg0]
  clear hX hg0 hg1
  go_wp2_with fail
  go_at_call 9; refine (cc _ hB).mono ?_; rintro e w1 ⟨rfl, hb⟩
  replace r0 := RowAt.below r0 hb
  replace r1 := RowAt.below r1 hb
  replace hB := below2 hB hb
  clear hb cc
  obtain ⟨y0, y1, y2, y3, yf⟩ := cells4 r0
  go_wp2_with fail
  clear y0 y1 y2 y3 yf
  go_at_call 32; refine (c1 _).mono ?_; rintro e w2 ⟨rfl, hb⟩
  replace r0 := RowAt.below r0 hb
  replace r1 := RowAt.below r1 hb
  replace hB := below2 hB hb
  clear hb c1
  obtain ⟨q0, q1, q2, q3, q4, q5, qf⟩ := six_of r1
  have ql := RowAt.lt r1
  have HW : Hid (Below w.heap.size w w2) := hB
  clear r0 r1 hB
  go_wp2_with fail
  (try simp only [Exit.inBlock, Exit.then])
  refine bodyPost_ret (v := .tuple #[.agg #[.bool false, .int .u64 0, .int .u64 0, .int .i64 0, .int .u8 0, .int .i64 0], .int .i64 2]) ?_ rfl ⟨rfl, bset (bset (bset (bset (bset (bset HW.out (by omega)) (by omega)) (by omega)) (by omega)) (by omega)) (by omega)⟩
  rw [results_cell_tmp1 rfl]
  go_simp
set_option maxHeartbeats 2000000 in
set_option maxRecDepth 20000 in
theorem find_none (o : Option Addr) (n c : Nat) (six : Bool) (p1 p2 len : Int) (k : Nat) (w : World)
    (cc : ∀ W, Below w.heap.size w W → Calls Try.prog 9 #[.slice o n c] W fun e w' => e = .returned (.int .i64 0) ∧ Below W.heap.size W w')
    (c1 : ∀ W, Calls Try.prog 32 #[.agg #[.bool six, .int .u64 p1, .int .u64 p2, .int .i64 len]] W fun e w' => e = .returned (.int .i64 0) ∧ Below W.heap.size W w')
    (cp : ∀ W, Below w.heap.size w W → Calls Try.prog 29 #[.slice o n c, .agg #[.bool six, .int .u64 p1, .int .u64 p2, .int .i64 len]] W fun e w' => ∃ k : Nat, e = .returned (.tuple #[.int .i64 (k : Int), .bool false]) ∧ Below W.heap.size W w')
    : Calls Try.prog 16 #[.slice o n c, .agg #[.bool six, .int .u64 p1, .int .u64 p2, .int .i64 len]] w fun e w' => e = .returned (.tuple #[.agg #[.bool false, .int .u64 0, .int .u64 0, .int .i64 0, .int .u8 0, .int .i64 0], .int .i64 3]) ∧ Below w.heap.size w w' := by
  obtain ⟨X, hX⟩ : ∃ X, X = (w.alloc (.cells #[.bool six, .int .u64 p1, .int .u64 p2, .int .i64 len] 32)).alloc (.cells #[.bool false, .int .u64 0, .int .u64 0, .int .i64 0, .int .u8 0, .int .i64 0] 37) := ⟨_, rfl⟩
  have hB : Below w.heap.size w X := by rw [hX]; exact below_new (below_new (Below.refl _ _) _) _
  obtain ⟨g0, hg0⟩ : ∃ g, g = w.heap.size := ⟨_, rfl⟩
  obtain ⟨g1, hg1⟩ : ∃ g, g = w.heap.size + 1 := ⟨_, rfl⟩
  have r0 : RowAt X g0 [.bool six, .int .u64 p1, .int .u64 p2, .int .i64 len] 32 := by
    rw [hX, hg0]; exact (RowAt.new w [.bool six, .int .u64 p1, .int .u64 p2, .int .i64 len] 32).alloc (.cells #[.bool false, .int .u64 0, .int .u64 0, .int .i64 0, .int .u8 0, .int .i64 0] 37)
  have r1 : RowAt X g1 [.bool false, .int .u64 0, .int .u64 0, .int .i64 0, .int .u8 0, .int .i64 0] 37 := by
    have h := RowAt.new (w.alloc (.cells #[.bool six, .int .u64 p1, .int .u64 p2, .int .i64 len] 32)) [.bool false, .int .u64 0, .int .u64 0, .int .i64 0, .int .u8 0, .int .i64 0] 37
    rw [World.size_alloc] at h
    rw [hX, hg1]; exact h
  have hgw : w.heap.size ≤ g1 := by omega
  have hne : g0 ≠ g1 := by omega
  go_enter Try.func16, Try.ntmps16
  go_upto_region 1 with fail
  rw [← hX, ← hg1, ← hg0]
  clear hX hg0 hg1
  go_wp2_with fail
  go_at_call 9; refine (cc _ hB).mono ?_; rintro e w1 ⟨rfl, hb⟩
  replace r0 := RowAt.below r0 hb
  replace r1 := RowAt.below r1 hb
  replace hB := below2 hB hb
  clear hb cc
  obtain ⟨y0, y1, y2, y3, yf⟩ := cells4 r0
  go_wp2_with fail
  clear y0 y1 y2 y3 yf
  go_at_call 32; refine (c1 _).mono ?_; rintro e w2 ⟨rfl, hb⟩
  replace r0 := RowAt.below r0 hb
  replace r1 := RowAt.below r1 hb
  replace hB := below2 hB hb
  clear hb c1
  obtain ⟨y0, y1, y2, y3, yf⟩ := cells4 r0
  go_wp2_with fail
  clear y0 y1 y2 y3 yf
  go_at_call 29; refine (cp _ hB).mono ?_; rintro e w3 ⟨k2, rfl, hb⟩
  replace r0 := RowAt.below r0 hb
  replace r1 := RowAt.below r1 hb
  replace hB := below2 hB hb
  clear cp
  obtain ⟨q0, q1, q2, q3, q4, q5, qf⟩ := six_of r1
  have ql := RowAt.lt r1
  have HW : Hid (Below w.heap.size w w3) := hB
  clear r0 r1 hB
  go_wp2_with fail
  (try simp only [Exit.inBlock, Exit.then])
  refine bodyPost_ret (v := .tuple #[.agg #[.bool false, .int .u64 0, .int .u64 0, .int .i64 0, .int .u8 0, .int .i64 0], .int .i64 3]) ?_ rfl ⟨rfl, bset (bset (bset (bset (bset (bset HW.out (by omega)) (by omega)) (by omega)) (by omega)) (by omega)) (by omega)⟩
  rw [results_cell_tmp1 rfl]
  go_simp
set_option maxHeartbeats 2000000 in
set_option maxRecDepth 20000 in
theorem find_is (o : Option Addr) (n c : Nat) (six : Bool) (p1 p2 len : Int) (k : Nat) (w : World) (s0 : Bool) (s1 s2 s3 s4 s5 : Int) (hkn : (k : Int) < (n : Int)) (hkn2 : k < n)
    (HC : Hid (∀ W : World, Below w.heap.size w W → ∃ b i, o = some ⟨b, i, none⟩ ∧ W.cell? ⟨b, i + k * 6, none⟩ = some (.bool s0) ∧ W.cell? ⟨b, i + k * 6 + 1, none⟩ = some (.int .u64 s1) ∧ W.cell? ⟨b, i + k * 6 + 2, none⟩ = some (.int .u64 s2) ∧ W.cell? ⟨b, i + k * 6 + 3, none⟩ = some (.int .i64 s3) ∧ W.cell? ⟨b, i + k * 6 + 4, none⟩ = some (.int .u8 s4) ∧ W.cell? ⟨b, i + k * 6 + 5, none⟩ = some (.int .i64 s5)))
    (cc : ∀ W, Below w.heap.size w W → Calls Try.prog 9 #[.slice o n c] W fun e w' => e = .returned (.int .i64 0) ∧ Below W.heap.size W w')
    (c1 : ∀ W, Calls Try.prog 32 #[.agg #[.bool six, .int .u64 p1, .int .u64 p2, .int .i64 len]] W fun e w' => e = .returned (.int .i64 0) ∧ Below W.heap.size W w')
    (cp : ∀ W, Below w.heap.size w W → Calls Try.prog 29 #[.slice o n c, .agg #[.bool six, .int .u64 p1, .int .u64 p2, .int .i64 len]] W fun e w' => e = .returned (.tuple #[.int .i64 (k : Int), .bool true]) ∧ Below W.heap.size W w')
    : Calls Try.prog 16 #[.slice o n c, .agg #[.bool six, .int .u64 p1, .int .u64 p2, .int .i64 len]] w fun e w' => e = .returned (.tuple #[.agg #[.bool s0, .int .u64 s1, .int .u64 s2, .int .i64 s3, .int .u8 s4, .int .i64 s5], .int .i64 0]) ∧ Below w.heap.size w w' := by
  obtain ⟨X, hX⟩ : ∃ X, X = (w.alloc (.cells #[.bool six, .int .u64 p1, .int .u64 p2, .int .i64 len] 32)).alloc (.cells #[.bool false, .int .u64 0, .int .u64 0, .int .i64 0, .int .u8 0, .int .i64 0] 37) := ⟨_, rfl⟩
  have hB : Below w.heap.size w X := by rw [hX]; exact below_new (below_new (Below.refl _ _) _) _
  obtain ⟨g0, hg0⟩ : ∃ g, g = w.heap.size := ⟨_, rfl⟩
  obtain ⟨g1, hg1⟩ : ∃ g, g = w.heap.size + 1 := ⟨_, rfl⟩
  have r0 : RowAt X g0 [.bool six, .int .u64 p1, .int .u64 p2, .int .i64 len] 32 := by
    rw [hX, hg0]; exact (RowAt.new w [.bool six, .int .u64 p1, .int .u64 p2, .int .i64 len] 32).alloc (.cells #[.bool false, .int .u64 0, .int .u64 0, .int .i64 0, .int .u8 0, .int .i64 0] 37)
  have r1 : RowAt X g1 [.bool false, .int .u64 0, .int .u64 0, .int .i64 0, .int .u8 0, .int .i64 0] 37 := by
    have h := RowAt.new (w.alloc (.cells #[.bool six, .int .u64 p1, .int .u64 p2, .int .i64 len] 32)) [.bool false, .int .u64 0, .int .u64 0, .int .i64 0, .int .u8 0, .int .i64 0] 37
    rw [World.size_alloc] at h
    rw [hX, hg1]; exact h
  have hgw : w.heap.size ≤ g1 := by omega
  have hne : g0 ≠ g1 := by omega
  go_enter Try.func16, Try.ntmps16
  go_upto_region 1 with fail
  rw [← hX, ← hg1, ← hg0]
  clear hX hg0 hg1
  go_wp2_with fail
  go_at_call 9; refine (cc _ hB).mono ?_; rintro e w1 ⟨rfl, hb⟩
  replace r0 := RowAt.below r0 hb
  replace r1 := RowAt.below r1 hb
  replace hB := below2 hB hb
  clear hb cc
  obtain ⟨y0, y1, y2, y3, yf⟩ := cells4 r0
  go_wp2_with fail
  clear y0 y1 y2 y3 yf
  go_at_call 32; refine (c1 _).mono ?_; rintro e w2 ⟨rfl, hb⟩
  replace r0 := RowAt.below r0 hb
  replace r1 := RowAt.below r1 hb
  replace hB := below2 hB hb
  clear hb c1
  obtain ⟨y0, y1, y2, y3, yf⟩ := cells4 r0
  go_wp2_with fail
  clear y0 y1 y2 y3 yf
  go_at_call 29; refine (cp _ hB).mono ?_; rintro e w3 ⟨rfl, hb⟩
  replace r0 := RowAt.below r0 hb
  replace r1 := RowAt.below r1 hb
  replace hB := below2 hB hb
  clear cp
  obtain ⟨b, i, rfl, a0, a1, a2, a3, a4, a5⟩ := HC.out _ hB
  obtain ⟨q0, q1, q2, q3, q4, q5, qf⟩ := six_of r1
  have ql := RowAt.lt r1
  have HW : Hid (Below w.heap.size w w3) := hB
  clear r0 r1 hB
  go_wp2_with fail
  (try simp only [Exit.inBlock, Exit.then])
  refine bodyPost_ret (v := .tuple #[.agg #[.bool s0, .int .u64 s1, .int .u64 s2, .int .i64 s3, .int .u8 s4, .int .i64 s5], .int .i64 0]) ?_ rfl ⟨rfl, bset (bset (bset (bset (bset (bset HW.out (by omega)) (by omega)) (by omega)) (by omega)) (by omega)) (by omega)⟩
  rw [results_cell_tmp1 rfl]
  go_simp
theorem find_at {l : List Rt} {p : Pf} {k : Nat} (hu : Up l) (hk : k < l.length) (he : l[k].pf = p) : findT l p = some l[k] := findT_at hk he (fun j hj hjk e => by
  have := List.pairwise_iff_getElem.1 hu j k hj hk hjk
  rw [e, he] at this
  exact ltP_irr _ this)
theorem find_off {l : List Rt} {p : Pf} (h : othersT l p = l) : findT l p = none := by
  unfold findT
  rw [List.find?_eq_none]
  intro x hx
  have := List.filter_eq_self.1 h x hx
  simpa using this
/-- trie.Find -/
theorem find_any (l : List Rt) (v : Value) (p : Pf) (w : World) (hl : HasRts w v l) (hf : ∀ x ∈ l, FitR x) (hp : FitP p) :
    Calls Try.prog 16 #[v, .agg #[.bool p.six, .int .u64 (hiN p.n : Int), .int .u64 (loN p.n : Int), .int .i64 p.len]] w fun e w' => e = .returned (.tuple #[rtA (findE l p).1, .int .i64 (findE l p).2]) ∧ Below w.heap.size w w' := by
  obtain ⟨o, c, rfl, hc1, hc2⟩ := Lk.HasRow.slice hl
  have cc := fun W (hb : Below w.heap.size w W) => check_any l _ W (hl.keep hb) hf
  have c1 : ∀ W, Calls Try.prog 32 #[.agg #[.bool p.six, .int .u64 (hiN p.n : Int), .int .u64 (loN p.n : Int), .int .i64 p.len]] W fun e w' => e = .returned (.int .i64 (if okP p then 0 else 2)) ∧ Below W.heap.size W w' := fun W => Go.Proofs.Ytaaedgfacnaggaa.Addr.check_any p W hp.1 hp.2
  have hck : checkT l = if okT l then 0 else 2 := rfl
  rw [hck] at cc
  cases hok : okT l with
  | false =>
    rw [hok] at cc
    have e : findE l p = (zeroR, 2) := by unfold findE; rw [hok]; rfl
    rw [e]
    exact find_bad1 o _ c p.six _ _ p.len 0 w cc
  | true =>
    rw [hok] at cc
    cases hox : okP p with
    | false =>
      rw [hox] at c1
      have e : findE l p = (zeroR, 2) := by unfold findE; rw [hok, hox]; rfl
      rw [e]
      exact find_bad2 o _ c p.six _ _ p.len 0 w cc c1
    | true =>
      rw [hox] at c1
      have e : findE l p = findO l p := by unfold findE; rw [hok, hox]; rfl
      rw [e]
      obtain ⟨h1, h2, h3⟩ := (okT_iff l).1 hok
      have cp := fun W (hb : Below w.heap.size w W) => place_any l _ p W (hl.keep hb) h3 hf hp h1
      by_cases hex : ∃ k, ∃ h : k < l.length, l[k].pf = p
      · obtain ⟨k, hk, he⟩ := hex
        have e2 : findO l p = (l[k], 0) := by unfold findO; rw [find_at h3 hk he]
        rw [e2]
        have key : ∀ k', Pos l p k' → k' = k := fun k' h => by
          rcases Nat.lt_trichotomy k' k with g | g | g
          · have := h.2.2 k hk (by omega)
            have a := List.pairwise_iff_getElem.1 h3 k' k (by omega) hk g
            rw [he] at a
            exact absurd a (h.2.2 k' (by omega) (Nat.le_refl _))
          · exact g
          · have := h.2.1 k hk g
            rw [he] at this
            exact absurd this (ltP_irr _)
        have hat : isAt l p k = true := by
          unfold isAt
          rw [List.getElem?_eq_getElem hk]
          simp only [decide_eq_true_eq]
          exact (ordP_eq _ _).2 he
        exact find_is o _ c p.six _ _ p.len k w l[k].pf.six _ _ l[k].pf.len _ l[k].act.i (by omega) hk
          (fun W hb => by
            obtain ⟨b, i, e1, _, ax⟩ := HasRts.cell (hl.keep hb) k hk
            exact ⟨b, i, e1, six_at ax⟩) cc c1
          (fun W hb => (cp W hb).mono (fun e w' h => by
            obtain ⟨k', hp', rfl, hb'⟩ := h
            have := key k' hp'
            subst this
            rw [hat]
            exact ⟨rfl, hb'⟩))
      · have hoth : othersT l p = l := List.filter_eq_self.2 (fun x hx => by
          obtain ⟨j, hj, rfl⟩ := List.getElem_of_mem hx
          have : ¬ ordP l[j].pf p = 0 := fun h => hex ⟨j, hj, (ordP_eq _ _).1 h⟩
          simpa using this)
        have e2 : findO l p = (zeroR, 3) := by unfold findO; rw [find_off hoth]
        rw [e2]
        have hat : ∀ k, isAt l p k = false := fun k => by
          unfold isAt
          cases hk : l[k]? with
          | none => rfl
          | some x =>
            obtain ⟨hkl, rfl⟩ := List.getElem?_eq_some_iff.1 hk
            simp only [decide_eq_false_iff_not]
            exact fun h => hex ⟨k, hkl, (ordP_eq _ _).1 h⟩
        exact find_none o _ c p.six _ _ p.len 0 w cc c1
          (fun W hb => (cp W hb).mono (fun e w' h => by
            obtain ⟨k', hp', rfl, hb'⟩ := h
            rw [hat]
            exact ⟨k', rfl, hb'⟩))
end Go.Proofs.Ytaaedgfacnaggaa.Tr
