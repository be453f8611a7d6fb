/- The document's parts of links: those ahead of an interface, of it, behind it. -/
import Derived.Test.YtedgmnnbmonhkaaLkRefC
import Derived.Deep.AppendLies
set_option linter.unusedVariables false
namespace Go.Proofs.Ytedgmnnbmonhkaa.Lk
open Go.RowKit
open Go.Proofs.Ytedgmnnbmonhkaa.Addr (RowAt below2 below_drew below_new bset RowAt.lt RowAt.cell RowAt.frozen RowAt.below RowAt.drew RowAt.new RowAt.alloc cells2)
attribute [-go_sem] Builtin.append_
theorem info_lk : (Try.prog.info? 24).map (fun i => (i.zero, i.size, i.bytes)) = some (some (.agg #[.int .i64 0, .int .i64 0]), 2, 16) := by kernel_rfl
theorem info_parts {e sz by' : Nat} {z : Value} (h : (Try.prog.info? e).map (fun i => (i.zero, i.size, i.bytes)) = some (some z, sz, by')) : ∃ i, Try.prog.info? e = some i ∧ i.zero = some z ∧ i.size = sz ∧ i.bytes = by' := by
  cases hi : Try.prog.info? e with
  | none => rw [hi] at h; cases h
  | some i =>
    rw [hi] at h
    simp only [Option.map_some, Option.some.injEq, Prod.mk.injEq] at h
    exact ⟨i, rfl, h.1, h.2.1, h.2.2⟩
/-- a row put behind an owned one, and where it then lies -/
theorem append_lks {W : World} {n₀ : Nat} {v u : Value} {l m : List Lk} (hown : W.ownsRow n₀ 24 2 v l.length (lkCs l)) (hsrc : HasLks W u m) (hm : 0 < m.length) (hb : l.length + m.length ≤ 1000000) (hn : n₀ ≤ W.heap.size) :
    ∃ g cap w3, (∀ ty, (Builtin.append_ #[22, 22] ty #[v, u]).run Try.prog W = .ok (.slice (some ⟨g, 0, none⟩) (l ++ m).length cap) w3) ∧ w3.ownsRow n₀ 24 2 (.slice (some ⟨g, 0, none⟩) (l ++ m).length cap) (l ++ m).length (lkCs (l ++ m)) ∧ W.grownBy w3 v.ownBlock ∧ (v.ownBlock = some g ∨ g = W.heap.size) ∧ g < w3.heap.size := by
  obtain ⟨i0, hi0, hz0, hz1, hz2⟩ := info_parts info_lk
  rcases hsrc.2 with ⟨rfl, h0⟩ | ⟨a, cap, rfl, g1, g2, g3, g4⟩
  · omega
  · have h := fun ty => run_append_lies (P := Try.prog) (w := W) 22 ty n₀ 24 i0 (.agg #[.int .i64 0, .int .i64 0]) 2 16 Try.underlying22 hi0 hz0 hz1 hz2 rfl (by decide) v l.length (lkCs l) hown a m.length cap (lkCs m) hsrc.1
      (fun j x hj => by rw [g4 j (by rw [← hsrc.1]; exact (List.getElem?_eq_some_iff.1 hj).1)]; exact hj) (one_links m) hm (by unfold maxLen; omega) (by omega) hn W.heap.size rfl
    obtain ⟨g, c2, w3, hrun, k1, k2, k3, k4⟩ := h 0
    rw [← lkCs_app, ← List.length_append] at k1
    rw [← List.length_append] at hrun
    exact ⟨g, c2, w3, fun ty => hrun, k1, k2, k3, k4⟩
def Dist (u v : Value) : Prop := ∀ k, u.ownBlock = some k → v.ownBlock ≠ some k
/-- three rows of one call's own, apart -/
structure Own3 (w W : World) (u v t : Value) (a b c : List Lk) : Prop where
  ou : W.ownsRow w.heap.size 24 2 u a.length (lkCs a)
  ov : W.ownsRow w.heap.size 24 2 v b.length (lkCs b)
  ot : W.ownsRow w.heap.size 24 2 t c.length (lkCs c)
  uv : Dist u v
  vt : Dist v t
  tu : Dist t u
  bl : Below w.heap.size w W
theorem Dist.symm {u v : Value} (h : Dist u v) : Dist v u := fun k hk hc => h k hc hk
theorem Own3.turn {w W : World} {u v t : Value} {a b c : List Lk} (h : Own3 w W u v t a b c) : Own3 w W v t u b c a := ⟨h.ov, h.ot, h.ou, h.vt, h.tu, h.uv, h.bl⟩
theorem own_below {W W' : World} {m e size k : Nat} {v : Value} {xs : List Value} (h : W.ownsRow m e size v k xs) (hb : Below W.heap.size W W') : W'.ownsRow m e size v k xs := by
  refine ⟨h.1, ?_⟩
  rcases h.2 with h0 | ⟨g, cap, cur, e1, hg, hgb, rest⟩
  · exact .inl h0
  · exact .inr ⟨g, cap, cur, e1, hg, by rw [hb.block g (Array.getElem?_eq_some_iff.1 hgb).1]; exact hgb, rest⟩
theorem Own3.below {w W W' : World} {u v t : Value} {a b c : List Lk} (h : Own3 w W u v t a b c) (hb : Below W.heap.size W W') : Own3 w W' u v t a b c :=
  ⟨own_below h.ou hb, own_below h.ov hb, own_below h.ot hb, h.uv, h.vt, h.tu, below2 h.bl hb⟩
theorem lit_lk (W : World) (x : Lk) : HasLks (W.alloc (.cells #[.int .i64 x.iface, .int .i64 x.peer] 24)) (.slice (some ⟨W.heap.size, 0, none⟩) 1 1) [x] := by
  refine ⟨rfl, .inr ⟨⟨W.heap.size, 0, none⟩, 1, rfl, Nat.le_refl _, by decide, fun _ => ⟨rfl, by simp⟩, fun j hj => ?_⟩⟩
  rw [addr_add, Nat.zero_add]
  exact (RowAt.new W (lkC x) 24).cell j
/-- the first row takes others -/
theorem Own3.app {w W : World} {u v t x : Value} {a b c m : List Lk} (h : Own3 w W u v t a b c) (hx : HasLks W x m) (hm : 0 < m.length) (hb : a.length + m.length ≤ 1000000) :
    ∃ g cap w3, (∀ ty, (Builtin.append_ #[22, 22] ty #[u, x]).run Try.prog W = .ok (.slice (some ⟨g, 0, none⟩) (a ++ m).length cap) w3) ∧ Own3 w w3 (.slice (some ⟨g, 0, none⟩) (a ++ m).length cap) v t (a ++ m) b c := by
  obtain ⟨g, cap, w3, hrun, ho, hg, hl, hlt⟩ := append_lks h.ou hx hm hb h.bl.size
  have hd : ∀ (y : Value) (d : List Lk), W.ownsRow w.heap.size 24 2 y d.length (lkCs d) → Dist u y → Dist y (.slice (some ⟨g, 0, none⟩) (a ++ m).length cap) ∧ w3.ownsRow w.heap.size 24 2 y d.length (lkCs d) := fun y d oy hy => by
    refine ⟨fun k hk hc => ?_, oy.kept hg ?_⟩
    · have hgk : g = k := by simpa [Value.ownBlock] using hc
      subst hgk
      rcases hl with hl | hl
      · exact hy g hl hk
      · have := (oy.lt g hk).2; omega
    · cases hyb : y.ownBlock with
      | none => exact .inl rfl
      | some k => exact .inr (fun hc => hy k hc.symm hyb)
  obtain ⟨d1, o1⟩ := hd v b h.ov h.uv
  obtain ⟨d2, o2⟩ := hd t c h.ot h.tu.symm
  refine ⟨g, cap, w3, hrun, ho, o1, o2, d1.symm, h.vt, d2, ?_⟩
  exact h.bl.grown hg h.bl.size (fun k e => (h.ou.lt k e).1)
def ofL (l : List Lk) (i : Int) : List Lk := l.filter (fun s => decide (s.iface = i))
theorem filter_snoc (p : Lk → Bool) (l : List Lk) (k : Nat) (h : k < l.length) : (l.take (k + 1)).filter p = (l.take k).filter p ++ (if p l[k] then [l[k]] else []) := by
  rw [List.take_succ_eq_append_getElem h, List.filter_append]
  congr 1
  cases hp : p l[k] <;> simp [hp]
theorem filter_le (p : Lk → Bool) (l : List Lk) (k : Nat) : ((l.take k).filter p).length ≤ l.length := Nat.le_trans (List.length_filter_le _ _) (by rw [List.length_take]; omega)
set_option maxHeartbeats 8000000 in
set_option maxRecDepth 20000 in
theorem parts_any (l : List Lk) (v : Value) (i : Int) (w : World) (hl : HasLks w v l) (hlen : l.length ≤ 1000) :
    Calls Try.prog 28 #[v, .int .i64 i] w fun e w' => ∃ u v t, e = .returned (.tuple #[u, v, t]) ∧ Own3 w w' u v t (aheadL l i) (ofL l i) (behindL l i) := by
  obtain ⟨o, c, rfl, hc1, hc2⟩ := HasRow.slice hl
  have HR : Hid (∀ wr : World, Below w.heap.size w wr → HasLks wr (.slice o l.length c) l) := fun wr hb => hl.keep hb
  obtain ⟨n, hn⟩ : ∃ n, n = l.length := ⟨_, rfl⟩
  have HN : Hid (n = l.length) := hn
  rw [← hn] at HR hc1 hlen ⊢
  have hni : (n : Int) ≤ 1000 := by omega
  clear hl hn
  have H0 : Hid (Own3 w w (.slice none 0 0) (.slice none 0 0) (.slice none 0 0) (aheadL (l.take 0) i) (ofL (l.take 0) i) (behindL (l.take 0) i)) := ⟨World.ownsRow_nil _ _ _ _, World.ownsRow_nil _ _ _ _, World.ownsRow_nil _ _ _ _, (fun k h => (by cases h)), (fun k h => (by cases h)), (fun k h => (by cases h)), Below.refl _ _⟩
  go_enter Try.func28, Try.ntmps28
  go_wp2_with fail
  go_loopw [7, 8, 9, 14] (fun u v t q wr => ∃ k : Nat, k ≤ n ∧ q = .int .i64 k ∧ Hid (Own3 w wr u v t (aheadL (l.take k) i) (ofL (l.take k) i) (behindL (l.take k) i))) (fun _ _ _ q _ => n - (intOf q).toNat)
  case atStart => exact ⟨0, by omega, rfl, H0⟩
  case round =>
    obtain ⟨k, hk, rfl, HI⟩ := hrel
    have hI := HI.out
    by_cases hlt : k < n
    · have hkz : k < l.length := by rw [← HN.out]; exact hlt
      obtain ⟨g1, i1, rfl, hg1, a0, a1⟩ := HasLks.cell (HR.out _ hI.bl) k hkz
      have HA : Hid (aheadL (l.take (k + 1)) i = aheadL (l.take k) i ++ (if decide (l[k].iface < i) then [l[k]] else [])) := filter_snoc _ l k hkz
      have HB : Hid (ofL (l.take (k + 1)) i = ofL (l.take k) i ++ (if decide (l[k].iface = i) then [l[k]] else [])) := filter_snoc _ l k hkz
      have HC : Hid (behindL (l.take (k + 1)) i = behindL (l.take k) i ++ (if decide (i < l[k].iface) then [l[k]] else [])) := filter_snoc _ l k hkz
      have la := filter_le (fun s => decide (s.iface < i)) l k
      have lb := filter_le (fun s => decide (s.iface = i)) l k
      have lc := filter_le (fun s => decide (i < s.iface)) l k
      have hnl := HN.out
      have la2 : (aheadL (l.take k) i).length ≤ 1000 := by show ((l.take k).filter _).length ≤ _; omega
      have lb2 : (ofL (l.take k) i).length ≤ 1000 := by show ((l.take k).filter _).length ≤ _; omega
      have lc2 : (behindL (l.take k) i).length ≤ 1000 := by show ((l.take k).filter _).length ≤ _; omega
      have hki : (k : Int) < (n : Int) := by omega
      obtain ⟨x, hx⟩ : ∃ x : Lk, x = l[k] := ⟨_, rfl⟩
      rw [← hx] at HA HB HC a0 a1
      clear hx la lb lc hnl HI hg1
      obtain ⟨ra, rb⟩ := x
      simp only at HA HB HC a0 a1
      go_upto_region 6 with fail
      obtain ⟨X, hX⟩ : ∃ X, X = wr.alloc (.cells #[.int .i64 ra, .int .i64 rb] 24) := ⟨_, rfl⟩
      have hbX : Below wr.heap.size wr X := by rw [hX]; exact below_new (Below.refl _ _) _
      have r0 : RowAt X wr.heap.size [.int .i64 ra, .int .i64 rb] 24 := by rw [hX]; exact RowAt.new _ _ _
      rw [← hX]
      replace hI := hI.below hbX
      clear hX hbX a0 a1
      generalize wr.heap.size = gs at r0 ⊢
      obtain ⟨y0, y1, yf⟩ := cells2 r0
      have hx := lit_lk X ⟨ra, rb⟩
      simp only at hx
      by_cases h1 : ra < i
      · have h2 : ¬ ra = i := by omega
        have h3 : ¬ i < ra := by omega
        rw [decide_eq_true h1] at HA
        rw [decide_eq_false h2] at HB
        rw [decide_eq_false h3] at HC
        obtain ⟨g, cap, w3, hrun, hO⟩ := (hI.below (below_new (Below.refl _ X) (.cells #[.int .i64 ra, .int .i64 rb] 24))).app hx (by simp) (by simp only [List.length_cons, List.length_nil]; omega)
        have HO : Hid (Own3 w w3 (.slice (some ⟨g, 0, none⟩) (aheadL (l.take k) i ++ [(⟨ra, rb⟩ : Lk)]).length cap) u8 u9 (aheadL (l.take (k + 1)) i) (ofL (l.take (k + 1)) i) (behindL (l.take (k + 1)) i)) := by
          show Own3 _ _ _ _ _ _ _ _
          rw [HA.out, HB.out, HC.out]
          simpa using hO
        clear hO hI hx HA HB HC
        go_wp2_with fail
        go_roundw
        case rel => exact ⟨k + 1, by omega, by go_num, by first | exact HO | simpa using HO⟩
        case measure => simp [intOf]; omega
      · by_cases h2 : ra = i
        · have h3 : ¬ i < ra := by omega
          rw [decide_eq_false h1] at HA
          rw [decide_eq_true h2] at HB
          rw [decide_eq_false h3] at HC
          obtain ⟨g, cap, w3, hrun, hO⟩ := (hI.turn.below (below_new (Below.refl _ X) (.cells #[.int .i64 ra, .int .i64 rb] 24))).app hx (by simp) (by simp only [List.length_cons, List.length_nil]; omega)
          have HO : Hid (Own3 w w3 u7 (.slice (some ⟨g, 0, none⟩) (ofL (l.take k) i ++ [(⟨ra, rb⟩ : Lk)]).length cap) u9 (aheadL (l.take (k + 1)) i) (ofL (l.take (k + 1)) i) (behindL (l.take (k + 1)) i)) := by
            show Own3 _ _ _ _ _ _ _ _
            rw [HA.out, HB.out, HC.out]
            simpa using hO.turn.turn
          have h2d : decide (ra < i) = false := decide_eq_false h1
          have h2e : (ra == i) = true := by simpa using h2
          clear hO hI hx HA HB HC h2 h1 h3
          go_wp2_with fail
          go_roundw
          case rel => exact ⟨k + 1, by omega, by go_num, by first | exact HO | simpa using HO⟩
          case measure => simp [intOf]; omega
        · have h3 : i < ra := by omega
          rw [decide_eq_false h1] at HA
          rw [decide_eq_false h2] at HB
          rw [decide_eq_true h3] at HC
          obtain ⟨g, cap, w3, hrun, hO⟩ := (hI.turn.turn.below (below_new (Below.refl _ X) (.cells #[.int .i64 ra, .int .i64 rb] 24))).app hx (by simp) (by simp only [List.length_cons, List.length_nil]; omega)
          have HO : Hid (Own3 w w3 u7 u8 (.slice (some ⟨g, 0, none⟩) (behindL (l.take k) i ++ [(⟨ra, rb⟩ : Lk)]).length cap) (aheadL (l.take (k + 1)) i) (ofL (l.take (k + 1)) i) (behindL (l.take (k + 1)) i)) := by
            show Own3 _ _ _ _ _ _ _ _
            rw [HA.out, HB.out, HC.out]
            simpa using hO.turn
          clear hO hI hx HA HB HC
          go_wp2_with fail
          go_roundw
          case rel => exact ⟨k + 1, by omega, by go_num, by first | exact HO | simpa using HO⟩
          case measure => simp [intOf]; omega
    · have hkn : decide ((k : Int) < (n : Int)) = false := decide_eq_false (by omega)
      have hte : l.take k = l := by have := HN.out; exact List.take_of_length_le (by omega)
      have HF : Hid (Own3 w wr u7 u8 u9 (aheadL l i) (ofL l i) (behindL l i)) := by rw [hte] at hI; exact hI
      clear hte hI HI
      go_wp2_with fail
      go_ret3
      exact ⟨u7, u8, u9, rfl, HF.out⟩
end Go.Proofs.Ytedgmnnbmonhkaa.Lk
