/- Routers, plain, and in memory. -/
import Derived.Test.YtbglbegljkgknaaGreatNq10
import Derived.BigQuiet
import Derived.Deep.AppendLies
import Derived.Shelf.Slices.Clone
import Derived.Laws.Cover3
import Derived.Test.YtbglbegljkgknaaGreatNq08
set_option linter.unusedVariables false
namespace Go.Proofs.YtbglbegljkgknaaGreat.Lk
open Go.RowKit
open Go.Proofs.YtbglbegljkgknaaGreat.Addr (RowAt below2 below_drew below_new bset RowAt.lt RowAt.cell RowAt.frozen RowAt.below RowAt.drew RowAt.new RowAt.alloc cells2 Bl bl_ne wp_region_bl bl_call bl_same)
set_option maxHeartbeats 4000000 in
set_option maxRecDepth 20000 in
theorem rcheck_any (l : List Lk) (v : Value) (w : World) (h : HasLks w v l) :
    Calls Tryz.prog 60 #[v] w fun e w' => e = .returned (.int .i64 (checkL l)) ∧ Below w.heap.size w w' := by
  obtain ⟨o, c, rfl, hc1, hc2⟩ := HasRow.slice h
  have HR : Hid (∀ wr : World, Below w.heap.size w wr → HasLks wr (.slice o l.length c) l) := fun wr hb => h.keep hb
  obtain ⟨n, hn⟩ : ∃ n, n = l.length := ⟨_, rfl⟩
  have HN : Hid (n = l.length) := hn
  rw [← hn] at HR hc1 ⊢
  have HC : Hid (checkL l = if (decide (n ≤ 32) && rise none l) then 0 else 2) := by show _ = _; unfold checkL okL; rw [← hn]
  generalize checkL l = R at HC ⊢
  clear h hn
  by_cases h32 : 32 < n
  · have HV : Hid (R = 2) := by show _ = _; rw [HC.out, decide_eq_false (by omega)]; rfl
    have q1 : decide ((32 : Int) < (n : Int)) = true := decide_eq_true (by omega)
    have q2 : decide (32 < n) = true := decide_eq_true h32
    clear HC HR
    go_enter Tryz.func60, Tryz.ntmps60
    go_wp2_with fail
    go_ret
    exact ⟨by rw [HV.out]; rfl, Below.refl _ _⟩
  · have HD : Hid (R = if rise none l then 0 else 2) := by show _ = _; rw [HC.out, decide_eq_true (by omega)]; rfl
    have hni : (n : Int) ≤ 32 := by omega
    have q1 : decide ((32 : Int) < (n : Int)) = false := decide_eq_false (by omega)
    have q2 : decide (32 < n) = false := decide_eq_false h32
    clear HC h32
    go_enter Tryz.func60, Tryz.ntmps60
    go_wp2_with fail
    go_loopw [10] (fun i wr => ∃ k : Nat, k ≤ n ∧ i = .int .i64 k ∧ Below w.heap.size w wr ∧ Hid (rise none l = rise (prevR l k) (l.drop k))) (fun i _ => n - (intOf i).toNat)
    case atStart => exact ⟨0, by omega, rfl, Below.refl _ _, (rfl : rise none l = _)⟩
    case round =>
      obtain ⟨k, hk, rfl, hB, HG⟩ := hrel
      have hh := HR.out _ hB
      by_cases hlt : k < n
      · have hkz : k < l.length := by rw [← HN.out]; exact hlt
        obtain ⟨g1, i1, rfl, hg1, a0, a1⟩ := HasLks.cell hh k hkz
        have cr : ∀ W : World, Calls Tryz.prog 90 #[.agg #[.int .i64 l[k].iface, .int .i64 l[k].peer]] W fun e w' => e = .returned (.bool (okK l[k])) ∧ Below W.heap.size W w' := fun W => one_any l[k] W
        have hki : (k : Int) < (n : Int) := by omega
        have HB1 : Hid (okK l[k] = false → R = 2) := fun h => round_bad hkz HD.out HG.out h
        have HB2 : Hid (okK l[k] = true → k = 0 → rise none l = rise (prevR l 1) (l.drop 1)) := fun h h0 => round_first hkz HG.out h h0
        have HB3 : Hid (okK l[k] = true → ∀ (j : Nat) (hj : j < l.length), k = j + 1 → (decide (l[k].iface ≤ l[j].iface) = false → rise none l = rise (prevR l (k + 1)) (l.drop (k + 1))) ∧ (decide (l[k].iface ≤ l[j].iface) = true → R = 2)) := fun h j hj h0 => round_next hkz HD.out HG.out h h0 hj
        generalize okK l[k] = B1 at cr HB1 HB2 HB3
        generalize l[k].iface = ra at a0 cr HB3
        clear HG
        generalize l[k].peer = rb at a1 cr
        go_upto_region 6 with fail
        obtain ⟨X, hX⟩ : ∃ X, X = wr.alloc (.cells #[.int .i64 ra, .int .i64 rb] 108) := ⟨_, rfl⟩
        have hbX : Below wr.heap.size wr X := by rw [hX]; exact below_new (Below.refl _ _) _
        have rx : RowAt X wr.heap.size [.int .i64 ra, .int .i64 rb] 108 := by rw [hX]; exact RowAt.new _ _ _
        rw [← hX]
        have hBX := below2 hB hbX
        have hhX := hh.keep hbX
        clear hX
        obtain ⟨gs, hgs⟩ : ∃ g, g = wr.heap.size := ⟨_, rfl⟩
        rw [← hgs] at rx ⊢
        clear hgs a0 a1 hg1
        have m0 : ∀ p : Bl X, p.W.cell? ⟨gs, 0, none⟩ = some (.int .i64 ra) := fun p => (rx.below p.h).cell 0
        have m1 : ∀ p : Bl X, p.W.cell? ⟨gs, 1, none⟩ = some (.int .i64 rb) := fun p => (rx.below p.h).cell 1
        haveI := bl_ne X
        cases B1
        · have HV : Hid (R = 2) := HB1.out rfl
          clear HB1 HB2 HB3 HD hh hhX
          refine wp_region_bl (by kernel_rfl) (by kernel_rfl) ?_
          repeat (go_big_quiet_step (first | (go_at_call 90; with_reducible exact bl_call (cr _))))
          refine wpQuiet_nil ?_
          intro wq hw'
          obtain ⟨⟨wz, hq⟩, hw2⟩ := hw'
          subst hw2
          have hW := below2 hBX hq
          go_wp2_with fail
          go_ret
          exact ⟨by rw [HV.out]; rfl, hW⟩
        · by_cases hk0 : k = 0
          · have HS1 : Hid (rise none l = rise (prevR l 1) (l.drop 1)) := HB2.out rfl hk0
            clear HB1 HB2 HB3 hh hhX
            have hz1 : decide ((0 : Int) < (k : Int)) = false := decide_eq_false (by omega)
            have hz2 : decide (0 < k) = false := decide_eq_false (by omega)
            have HK : Hid (k = 0) := hk0
            clear hk0
            refine wp_region_bl (by kernel_rfl) (by kernel_rfl) ?_
            repeat (go_big_quiet_step (first | (go_at_call 90; with_reducible exact bl_call (cr _))))
            refine wpQuiet_nil ?_
            intro wq hw'
            obtain ⟨⟨wz, hq⟩, hw2⟩ := hw'
            subst hw2
            have hW := below2 hBX hq
            go_wp2_with fail
            go_roundw
            case rel => exact ⟨k + 1, by omega, by go_num, hW, by rw [HK.out]; exact HS1⟩
            case measure => simp [intOf]; omega
          · obtain ⟨j, hj⟩ : ∃ j, k = j + 1 := ⟨k - 1, by omega⟩
            have hj2 : j < l.length := by omega
            obtain ⟨g2, i2, e12, hg2, b0, _⟩ := HasLks.cell hhX j hj2
            injection e12 with e12
            injection e12 with e1 e2
            subst e1 e2
            obtain ⟨HN1, HN2⟩ := HB3.out rfl j hj2 hj
            have HN1 : Hid (decide (ra ≤ l[j].iface) = false → rise none l = rise (prevR l (k + 1)) (l.drop (k + 1))) := HN1
            have HN2 : Hid (decide (ra ≤ l[j].iface) = true → R = 2) := HN2
            have u0 : ∀ p : Bl X, p.W.cell? ⟨g1, i1 + j * 2, none⟩ = some (.int .i64 l[j].iface) := fun p => (p.h.cell (p := ⟨g1, i1 + j * 2, none⟩) hg2).trans b0
            clear HB1 HB2 HB3 hh hhX b0 hg2
            generalize l[j].iface = pr at u0 HN1 HN2
            have e1 : (k : Int) - 1 = (j : Int) := by omega
            have e2 : IntKind.i64.wrap (j : Int) = (j : Int) := by rw [IntKind.wrap_i64]; omega
            have hkp : decide ((0 : Int) < (k : Int)) = true := decide_eq_true (by omega)
            have hkp' : decide (0 < k) = true := decide_eq_true (by omega)
            have hjn : (j : Int) < (n : Int) := by omega
            clear hj hk0
            cases B2 : decide (ra ≤ pr)
            · have HS1 : Hid (rise none l = rise (prevR l (k + 1)) (l.drop (k + 1))) := HN1.out B2
              clear HN1 HN2
              refine wp_region_bl (by kernel_rfl) (by kernel_rfl) ?_
              repeat (go_big_quiet_step (first | (go_at_call 90; with_reducible exact bl_call (cr _))))
              refine wpQuiet_nil ?_
              intro wq hw'
              obtain ⟨⟨wz, hq⟩, hw2⟩ := hw'
              subst hw2
              have hW := below2 hBX hq
              go_wp2_with fail
              go_roundw
              case rel => exact ⟨k + 1, by omega, by go_num, hW, HS1⟩
              case measure => simp [intOf]; omega
            · have HV : Hid (R = 2) := HN2.out B2
              clear HN1 HN2 HD
              refine wp_region_bl (by kernel_rfl) (by kernel_rfl) ?_
              repeat (go_big_quiet_step (first | (go_at_call 90; with_reducible exact bl_call (cr _))))
              refine wpQuiet_nil ?_
              intro wq hw'
              obtain ⟨⟨wz, hq⟩, hw2⟩ := hw'
              subst hw2
              have hW := below2 hBX hq
              go_wp2_with fail
              go_ret
              exact ⟨by rw [HV.out]; rfl, hW⟩
      · obtain rfl : k = n := by omega
        have HV : Hid (R = 0) := by
          show _ = _
          rw [HD.out, HG.out, List.drop_of_length_le (by rw [← HN.out]; exact Nat.le_refl _)]
          unfold prevR
          split <;> rfl
        clear hh HG HD
        go_wp2
        go_ret
        exact ⟨by rw [HV.out]; rfl, hB⟩
end Go.Proofs.YtbglbegljkgknaaGreat.Lk
namespace Go.Proofs.YtbglbegljkgknaaGreat.Lk
open Go.RowKit
open Go.Proofs.YtbglbegljkgknaaGreat.Addr (RowAt below2 below_drew below_new bset RowAt.lt RowAt.cell RowAt.frozen RowAt.below RowAt.drew RowAt.new RowAt.alloc cells2)
attribute [-go_sem] Builtin.append_
theorem info_lk : (Tryz.prog.info? 108).map (fun i => (i.zero, i.size, i.bytes)) = some (some (.agg #[.int .i64 0, .int .i64 0]), 2, 16) := by kernel_rfl
theorem info_parts {e sz by' : Nat} {z : Value} (h : (Tryz.prog.info? e).map (fun i => (i.zero, i.size, i.bytes)) = some (some z, sz, by')) : ∃ i, Tryz.prog.info? e = some i ∧ i.zero = some z ∧ i.size = sz ∧ i.bytes = by' := by
  cases hi : Tryz.prog.info? e with
  | none => rw [hi] at h; cases h
  | some i =>
    rw [hi] at h
    simp only [Option.map_some, Option.some.injEq, Prod.mk.injEq] at h
    exact ⟨i, rfl, h.1, h.2.1, h.2.2⟩
/-- a row put behind an owned one, and where it then lies -/
theorem append_lks {W : World} {n₀ : Nat} {v u : Value} {l m : List Lk} (hown : W.ownsRow n₀ 108 2 v l.length (lkCs l)) (hsrc : HasLks W u m) (hm : 0 < m.length) (hb : l.length + m.length ≤ 1000000) (hn : n₀ ≤ W.heap.size) :
    ∃ g cap w3, (∀ ty, (Builtin.append_ #[49, 49] ty #[v, u]).run Tryz.prog W = .ok (.slice (some ⟨g, 0, none⟩) (l ++ m).length cap) w3) ∧ w3.ownsRow n₀ 108 2 (.slice (some ⟨g, 0, none⟩) (l ++ m).length cap) (l ++ m).length (lkCs (l ++ m)) ∧ W.grownBy w3 v.ownBlock ∧ (v.ownBlock = some g ∨ g = W.heap.size) ∧ g < w3.heap.size := by
  obtain ⟨i0, hi0, hz0, hz1, hz2⟩ := info_parts info_lk
  rcases hsrc.2 with ⟨rfl, h0⟩ | ⟨a, cap, rfl, g1, g2, g3, g4⟩
  · omega
  · have h := fun ty => run_append_lies (P := Tryz.prog) (w := W) 49 ty n₀ 108 i0 (.agg #[.int .i64 0, .int .i64 0]) 2 16 Tryz.underlying49 hi0 hz0 hz1 hz2 rfl (by decide) v l.length (lkCs l) hown a m.length cap (lkCs m) hsrc.1
      (fun j x hj => by rw [g4 j (by rw [← hsrc.1]; exact (List.getElem?_eq_some_iff.1 hj).1)]; exact hj) (one_links m) hm (by unfold maxLen; omega) (by omega) hn W.heap.size rfl
    obtain ⟨g, c2, w3, hrun, k1, k2, k3, k4⟩ := h 0
    rw [← lkCs_app, ← List.length_append] at k1
    rw [← List.length_append] at hrun
    exact ⟨g, c2, w3, fun ty => hrun, k1, k2, k3, k4⟩
def Dist (u v : Value) : Prop := ∀ k, u.ownBlock = some k → v.ownBlock ≠ some k
/-- three rows of one call's own, apart -/
structure Own3 (w W : World) (u v t : Value) (a b c : List Lk) : Prop where
  ou : W.ownsRow w.heap.size 108 2 u a.length (lkCs a)
  ov : W.ownsRow w.heap.size 108 2 v b.length (lkCs b)
  ot : W.ownsRow w.heap.size 108 2 t c.length (lkCs c)
  uv : Dist u v
  vt : Dist v t
  tu : Dist t u
  bl : Below w.heap.size w W
theorem Dist.symm {u v : Value} (h : Dist u v) : Dist v u := fun k hk hc => h k hc hk
theorem Own3.turn {w W : World} {u v t : Value} {a b c : List Lk} (h : Own3 w W u v t a b c) : Own3 w W v t u b c a := ⟨h.ov, h.ot, h.ou, h.vt, h.tu, h.uv, h.bl⟩
theorem own_below {W W' : World} {m e size k : Nat} {v : Value} {xs : List Value} (h : W.ownsRow m e size v k xs) (hb : Below W.heap.size W W') : W'.ownsRow m e size v k xs := by
  refine ⟨h.1, ?_⟩
  rcases h.2 with h0 | ⟨g, cap, cur, e1, hg, hgb, rest⟩
  · exact .inl h0
  · exact .inr ⟨g, cap, cur, e1, hg, by rw [hb.block g (Array.getElem?_eq_some_iff.1 hgb).1]; exact hgb, rest⟩
theorem Own3.below {w W W' : World} {u v t : Value} {a b c : List Lk} (h : Own3 w W u v t a b c) (hb : Below W.heap.size W W') : Own3 w W' u v t a b c :=
  ⟨own_below h.ou hb, own_below h.ov hb, own_below h.ot hb, h.uv, h.vt, h.tu, below2 h.bl hb⟩
theorem lit_lk (W : World) (x : Lk) : HasLks (W.alloc (.cells #[.int .i64 x.iface, .int .i64 x.peer] 108)) (.slice (some ⟨W.heap.size, 0, none⟩) 1 1) [x] := by
  refine ⟨rfl, .inr ⟨⟨W.heap.size, 0, none⟩, 1, rfl, Nat.le_refl _, by decide, fun _ => ⟨rfl, by simp⟩, fun j hj => ?_⟩⟩
  rw [addr_add, Nat.zero_add]
  exact (RowAt.new W (lkC x) 108).cell j
/-- the first row takes others -/
theorem Own3.app {w W : World} {u v t x : Value} {a b c m : List Lk} (h : Own3 w W u v t a b c) (hx : HasLks W x m) (hm : 0 < m.length) (hb : a.length + m.length ≤ 1000000) :
    ∃ g cap w3, (∀ ty, (Builtin.append_ #[49, 49] ty #[u, x]).run Tryz.prog W = .ok (.slice (some ⟨g, 0, none⟩) (a ++ m).length cap) w3) ∧ Own3 w w3 (.slice (some ⟨g, 0, none⟩) (a ++ m).length cap) v t (a ++ m) b c := by
  obtain ⟨g, cap, w3, hrun, ho, hg, hl, hlt⟩ := append_lks h.ou hx hm hb h.bl.size
  have hd : ∀ (y : Value) (d : List Lk), W.ownsRow w.heap.size 108 2 y d.length (lkCs d) → Dist u y → Dist y (.slice (some ⟨g, 0, none⟩) (a ++ m).length cap) ∧ w3.ownsRow w.heap.size 108 2 y d.length (lkCs d) := fun y d oy hy => by
    refine ⟨fun k hk hc => ?_, oy.kept hg ?_⟩
    · have hgk : g = k := by simpa [Value.ownBlock] using hc
      subst hgk
      rcases hl with hl | hl
      · exact hy g hl hk
      · have := (oy.lt g hk).2; omega
    · cases hyb : y.ownBlock with
      | none => exact .inl rfl
      | some k => exact .inr (fun hc => hy k hc.symm hyb)
  obtain ⟨d1, o1⟩ := hd v b h.ov h.uv
  obtain ⟨d2, o2⟩ := hd t c h.ot h.tu.symm
  refine ⟨g, cap, w3, hrun, ho, o1, o2, d1.symm, h.vt, d2, ?_⟩
  exact h.bl.grown hg h.bl.size (fun k e => (h.ou.lt k e).1)
def ofL (l : List Lk) (i : Int) : List Lk := l.filter (fun s => decide (s.iface = i))
theorem filter_snoc (p : Lk → Bool) (l : List Lk) (k : Nat) (h : k < l.length) : (l.take (k + 1)).filter p = (l.take k).filter p ++ (if p l[k] then [l[k]] else []) := by
  rw [List.take_succ_eq_append_getElem h, List.filter_append]
  congr 1
  cases hp : p l[k] <;> simp [hp]
theorem filter_le (p : Lk → Bool) (l : List Lk) (k : Nat) : ((l.take k).filter p).length ≤ l.length := Nat.le_trans (List.length_filter_le _ _) (by rw [List.length_take]; omega)
set_option maxHeartbeats 8000000 in
set_option maxRecDepth 20000 in
theorem parts_any (l : List Lk) (v : Value) (i : Int) (w : World) (hl : HasLks w v l) (hlen : l.length ≤ 1000) :
    Calls Tryz.prog 114 #[v, .int .i64 i] w fun e w' => ∃ u v t, e = .returned (.tuple #[u, v, t]) ∧ Own3 w w' u v t (aheadL l i) (ofL l i) (behindL l i) := by
  obtain ⟨o, c, rfl, hc1, hc2⟩ := HasRow.slice hl
  have HR : Hid (∀ wr : World, Below w.heap.size w wr → HasLks wr (.slice o l.length c) l) := fun wr hb => hl.keep hb
  obtain ⟨n, hn⟩ : ∃ n, n = l.length := ⟨_, rfl⟩
  have HN : Hid (n = l.length) := hn
  rw [← hn] at HR hc1 hlen ⊢
  have hni : (n : Int) ≤ 1000 := by omega
  clear hl hn
  have H0 : Hid (Own3 w w (.slice none 0 0) (.slice none 0 0) (.slice none 0 0) (aheadL (l.take 0) i) (ofL (l.take 0) i) (behindL (l.take 0) i)) := ⟨World.ownsRow_nil _ _ _ _, World.ownsRow_nil _ _ _ _, World.ownsRow_nil _ _ _ _, (fun k h => (by cases h)), (fun k h => (by cases h)), (fun k h => (by cases h)), Below.refl _ _⟩
  go_enter Tryz.func114, Tryz.ntmps114
  go_wp2_with fail
  go_loopw [7, 8, 9, 14] (fun u v t q wr => ∃ k : Nat, k ≤ n ∧ q = .int .i64 k ∧ Hid (Own3 w wr u v t (aheadL (l.take k) i) (ofL (l.take k) i) (behindL (l.take k) i))) (fun _ _ _ q _ => n - (intOf q).toNat)
  case atStart => exact ⟨0, by omega, rfl, H0⟩
  case round =>
    obtain ⟨k, hk, rfl, HI⟩ := hrel
    have hI := HI.out
    by_cases hlt : k < n
    · have hkz : k < l.length := by rw [← HN.out]; exact hlt
      obtain ⟨g1, i1, rfl, hg1, a0, a1⟩ := HasLks.cell (HR.out _ hI.bl) k hkz
      have HA : Hid (aheadL (l.take (k + 1)) i = aheadL (l.take k) i ++ (if decide (l[k].iface < i) then [l[k]] else [])) := filter_snoc _ l k hkz
      have HB : Hid (ofL (l.take (k + 1)) i = ofL (l.take k) i ++ (if decide (l[k].iface = i) then [l[k]] else [])) := filter_snoc _ l k hkz
      have HC : Hid (behindL (l.take (k + 1)) i = behindL (l.take k) i ++ (if decide (i < l[k].iface) then [l[k]] else [])) := filter_snoc _ l k hkz
      have la := filter_le (fun s => decide (s.iface < i)) l k
      have lb := filter_le (fun s => decide (s.iface = i)) l k
      have lc := filter_le (fun s => decide (i < s.iface)) l k
      have hnl := HN.out
      have la2 : (aheadL (l.take k) i).length ≤ 1000 := by show ((l.take k).filter _).length ≤ _; omega
      have lb2 : (ofL (l.take k) i).length ≤ 1000 := by show ((l.take k).filter _).length ≤ _; omega
      have lc2 : (behindL (l.take k) i).length ≤ 1000 := by show ((l.take k).filter _).length ≤ _; omega
      have hki : (k : Int) < (n : Int) := by omega
      obtain ⟨x, hx⟩ : ∃ x : Lk, x = l[k] := ⟨_, rfl⟩
      rw [← hx] at HA HB HC a0 a1
      clear hx la lb lc hnl HI hg1
      obtain ⟨ra, rb⟩ := x
      simp only at HA HB HC a0 a1
      go_upto_region 6 with fail
      obtain ⟨X, hX⟩ : ∃ X, X = wr.alloc (.cells #[.int .i64 ra, .int .i64 rb] 108) := ⟨_, rfl⟩
      have hbX : Below wr.heap.size wr X := by rw [hX]; exact below_new (Below.refl _ _) _
      have r0 : RowAt X wr.heap.size [.int .i64 ra, .int .i64 rb] 108 := by rw [hX]; exact RowAt.new _ _ _
      rw [← hX]
      replace hI := hI.below hbX
      clear hX hbX a0 a1
      generalize wr.heap.size = gs at r0 ⊢
      obtain ⟨y0, y1, yf⟩ := cells2 r0
      have hx := lit_lk X ⟨ra, rb⟩
      simp only at hx
      by_cases h1 : ra < i
      · have h2 : ¬ ra = i := by omega
        have h3 : ¬ i < ra := by omega
        rw [decide_eq_true h1] at HA
        rw [decide_eq_false h2] at HB
        rw [decide_eq_false h3] at HC
        obtain ⟨g, cap, w3, hrun, hO⟩ := (hI.below (below_new (Below.refl _ X) (.cells #[.int .i64 ra, .int .i64 rb] 108))).app hx (by simp) (by simp only [List.length_cons, List.length_nil]; omega)
        have HO : Hid (Own3 w w3 (.slice (some ⟨g, 0, none⟩) (aheadL (l.take k) i ++ [(⟨ra, rb⟩ : Lk)]).length cap) u8 u9 (aheadL (l.take (k + 1)) i) (ofL (l.take (k + 1)) i) (behindL (l.take (k + 1)) i)) := by
          show Own3 _ _ _ _ _ _ _ _
          rw [HA.out, HB.out, HC.out]
          simpa using hO
        clear hO hI hx HA HB HC
        go_wp2_with fail
        go_roundw
        case rel => exact ⟨k + 1, by omega, by go_num, by first | exact HO | simpa using HO⟩
        case measure => simp [intOf]; omega
      · by_cases h2 : ra = i
        · have h3 : ¬ i < ra := by omega
          rw [decide_eq_false h1] at HA
          rw [decide_eq_true h2] at HB
          rw [decide_eq_false h3] at HC
          obtain ⟨g, cap, w3, hrun, hO⟩ := (hI.turn.below (below_new (Below.refl _ X) (.cells #[.int .i64 ra, .int .i64 rb] 108))).app hx (by simp) (by simp only [List.length_cons, List.length_nil]; omega)
          have HO : Hid (Own3 w w3 u7 (.slice (some ⟨g, 0, none⟩) (ofL (l.take k) i ++ [(⟨ra, rb⟩ : Lk)]).length cap) u9 (aheadL (l.take (k + 1)) i) (ofL (l.take (k + 1)) i) (behindL (l.take (k + 1)) i)) := by
            show Own3 _ _ _ _ _ _ _ _
            rw [HA.out, HB.out, HC.out]
            simpa using hO.turn.turn
          have h2d : decide (ra < i) = false := decide_eq_false h1
          have h2e : (ra == i) = true := by simpa using h2
          clear hO hI hx HA HB HC h2 h1 h3
          go_wp2_with fail
          go_roundw
          case rel => exact ⟨k + 1, by omega, by go_num, by first | exact HO | simpa using HO⟩
          case measure => simp [intOf]; omega
        · have h3 : i < ra := by omega
          rw [decide_eq_false h1] at HA
          rw [decide_eq_false h2] at HB
          rw [decide_eq_true h3] at HC
          obtain ⟨g, cap, w3, hrun, hO⟩ := (hI.turn.turn.below (below_new (Below.refl _ X) (.cells #[.int .i64 ra, .int .i64 rb] 108))).app hx (by simp) (by simp only [List.length_cons, List.length_nil]; omega)
          have HO : Hid (Own3 w w3 u7 u8 (.slice (some ⟨g, 0, none⟩) (behindL (l.take k) i ++ [(⟨ra, rb⟩ : Lk)]).length cap) (aheadL (l.take (k + 1)) i) (ofL (l.take (k + 1)) i) (behindL (l.take (k + 1)) i)) := by
            show Own3 _ _ _ _ _ _ _ _
            rw [HA.out, HB.out, HC.out]
            simpa using hO.turn
          clear hO hI hx HA HB HC
          go_wp2_with fail
          go_roundw
          case rel => exact ⟨k + 1, by omega, by go_num, by first | exact HO | simpa using HO⟩
          case measure => simp [intOf]; omega
    · have hkn : decide ((k : Int) < (n : Int)) = false := decide_eq_false (by omega)
      have hte : l.take k = l := by have := HN.out; exact List.take_of_length_le (by omega)
      have HF : Hid (Own3 w wr u7 u8 u9 (aheadL l i) (ofL l i) (behindL l i)) := by rw [hte] at hI; exact hI
      clear hte hI HI
      go_wp2_with fail
      go_ret3
      exact ⟨u7, u8, u9, rfl, HF.out⟩
end Go.Proofs.YtbglbegljkgknaaGreat.Lk
namespace Go.Proofs.YtbglbegljkgknaaGreat.Lk
open Go.RowKit Go.Shelf
open Go.Proofs.YtbglbegljkgknaaGreat.Addr (RowAt below2 below_drew below_new bset RowAt.lt RowAt.cell RowAt.frozen RowAt.below RowAt.drew RowAt.new RowAt.alloc cells2)
attribute [-go_sem] Builtin.append_
theorem append_row {e tS sz bytes : Nat} {z : Value} (hi : (Tryz.prog.info? e).map (fun i => (i.zero, i.size, i.bytes)) = some (some z, sz, bytes)) (hu : Tryz.prog.underlying tS = some (.slice e)) (hz : z.cells.size = sz) (hsz : 0 < sz)
    {W : World} {n₀ k m : Nat} {v u : Value} {xs news : List Value} (hown : W.ownsRow n₀ e sz v k xs) (hsrc : HasRow W u sz m news) (h1 : ∀ x ∈ news, x.oneCell' = true) (hb : (k + m) * bytes ≤ 140737488355328) (hkm : k + m ≤ 9223372036854775807) (hn : n₀ ≤ W.heap.size) :
    ∃ v' w3, (∀ ty, (Builtin.append_ #[tS, tS] ty #[v, u]).run Tryz.prog W = .ok v' w3) ∧ w3.ownsRow n₀ e sz v' (k + m) (xs ++ news) ∧ W.grownBy w3 v.ownBlock := by
  obtain ⟨i0, hi0, hz0, hz1, hz2⟩ := info_parts hi
  rcases hsrc.2 with ⟨rfl, rfl⟩ | ⟨a, cap, rfl, g1, g2, g3, g4⟩
  · obtain rfl : news = [] := List.eq_nil_of_length_eq_zero (by rw [hsrc.1]; simp)
    have := fun ty => run_append_owned_none (P := Tryz.prog) W n₀ tS ty e i0 sz hu hi0 v k xs hown
    exact ⟨v, W, this, by simpa using hown, World.grownBy.refl _ _⟩
  · have h := run_append_own (P := Tryz.prog) W n₀ tS 0 e i0 z sz bytes hu hi0 hz0 hz1 hz2 hz hsz v k xs hown a m cap news hsrc.1
      (fun j x hj => by rw [g4 j (by rw [← hsrc.1]; exact (List.getElem?_eq_some_iff.1 hj).1)]; exact hj) h1 (by unfold maxLen; omega) hb hn
    obtain ⟨v', w3, hrun, k1, k2, _⟩ := h
    exact ⟨v', w3, fun ty => hrun, k1, k2⟩
theorem empty_own (w : World) (e sz : Nat) : (w.alloc (.cells #[] e)).ownsRow w.heap.size e sz (.slice (some ⟨w.heap.size, 0, none⟩) 0 0) 0 [] :=
  World.ownsRow_made (base := w.heap.size) (e := e) (size := sz) w #[] 0 (Nat.le_refl _) (by decide) (by simp)
theorem eql_slice_nil {t e : Nat} (h : Tryz.prog.underlying t = some (.slice e)) (a : Option Addr) (l c : Nat) (w : World) : (binOp .eql t (.slice a l c) (.slice none 0 0)).run Tryz.prog w = .ok (.bool a.isNone) w := by
  simp only [binOp]
  simp [run_equal_slice_nil w t e a l c h]
set_option maxRecDepth 20000 in
set_option maxHeartbeats 400000 in
theorem clone_any (l : List Lk) (v : Value) (w : World) (h : HasLks w v l) (hz : l.length ≤ 1000000000) :
    Calls Tryz.prog 64 #[v] w fun e w' => ∃ u, e = .returned u ∧ w'.ownsRow w.heap.size 108 2 u l.length (lkCs l) ∧ Below w.heap.size w w' := by
  have hk := h.keep ((Below.refl _ w).alloc (Nat.le_refl _) (.cells #[] 108))
  have he := eql_slice_nil Tryz.underlying49
  rcases h.2 with ⟨rfl, h0⟩ | ⟨a, cap, rfl, g1, g2, g3, g4⟩
  · obtain rfl : l = [] := List.eq_nil_of_length_eq_zero h0
    clear h hk h0 hz
    go_enter Tryz.func64, Tryz.ntmps64
    go_wp2
    go_ret
    exact ⟨_, rfl, World.ownsRow_nil _ _ _ _, Below.refl _ _⟩
  · obtain ⟨v', w3, hrun, h1, h2⟩ := append_row info_lk Tryz.underlying49 rfl (by decide) (empty_own w 108 2) hk (one_links l) (by omega) (by omega) (by simp)
    rw [Nat.zero_add, List.nil_append] at h1
    have hB : Below w.heap.size w w3 := ((Below.refl _ w).alloc (Nat.le_refl _) _).grown h2 (by simp) (fun k e => by simp [Value.ownBlock] at e; omega)
    have H1 : Hid (w3.ownsRow w.heap.size 108 2 v' l.length (lkCs l)) := h1
    have hn9 : l.length ≤ 9223372036854775807 := by omega
    clear h hk h1 h2 g3 g4 hz
    generalize l.length = n at *
    go_enter Tryz.func64, Tryz.ntmps64
    go_wp2
    go_ret
    exact ⟨_, rfl, H1.out, hB⟩
end Go.Proofs.YtbglbegljkgknaaGreat.Lk
namespace Go.Proofs.YtbglbegljkgknaaGreat.Lk
open Go.RowKit
theorem rise_some (l : List Lk) : ∀ (r : Int), rise (some r) l = true → ∀ x ∈ l, r < x.iface := by
  induction l with
  | nil => intro r _ x hx; simp at hx
  | cons s l ih =>
    intro r h x hx
    unfold rise at h
    simp only [Bool.and_eq_true, decide_eq_true_eq] at h
    rcases List.mem_cons.1 hx with rfl | hx
    · exact h.1.2
    · have := ih s.iface h.2 x hx; omega
theorem rise_drop (l : List Lk) : ∀ p, rise p l = true → l.Pairwise (fun x y => x.iface < y.iface) := by
  induction l with
  | nil => intro p _; exact List.Pairwise.nil
  | cons s l ih =>
    intro p h
    have h2 : rise (some s.iface) l = true := by
      cases p <;> (unfold rise at h; simp only [Bool.and_eq_true] at h; exact h.2)
    exact List.Pairwise.cons (fun y hy => rise_some l _ h2 y hy) (ih _ h2)
theorem okL_up {l : List Lk} (h : okL l = true) : l.Pairwise (fun x y => x.iface < y.iface) := by
  unfold okL at h
  simp only [Bool.and_eq_true] at h
  exact rise_drop l _ h.2
theorem okL_len2 {l : List Lk} (h : okL l = true) : l.length ≤ 32 := by
  unfold okL at h
  simp only [Bool.and_eq_true, decide_eq_true_eq] at h
  exact h.1
theorem up_ne {l : List Lk} (h : l.Pairwise (fun x y => x.iface < y.iface)) {j k : Nat} (hj : j < l.length) (hk : k < l.length) (hjk : j ≠ k) : l[j].iface ≠ l[k].iface := by
  rcases Nat.lt_or_gt_of_ne hjk with h1 | h1
  · have := List.pairwise_iff_getElem.1 h j k hj hk h1; omega
  · have := List.pairwise_iff_getElem.1 h k j hk hj h1; omega
theorem others_none {l : List Lk} {i : Int} (h : ∀ j (hj : j < l.length), ¬ l[j].iface = i) : others l i = l := by
  unfold others
  rw [List.filter_eq_self]
  intro x hx
  obtain ⟨j, hj, rfl⟩ := List.getElem_of_mem hx
  simp [h j hj]
theorem others_cut (l : List Lk) (k : Nat) (r : Int) : others l r = others (l.take k) r ++ others (l.drop k) r := by
  unfold others
  rw [← List.filter_append, List.take_append_drop]
theorem others_at {l : List Lk} (hp : l.Pairwise (fun x y => x.iface < y.iface)) {k : Nat} (hk : k < l.length) : others l l[k].iface = l.take k ++ l.drop (k + 1) := by
  have h1 : others (l.take k) l[k].iface = l.take k := others_none (fun j hj => by
    rw [List.length_take] at hj
    rw [List.getElem_take]
    exact up_ne hp (by omega) hk (by omega))
  have h2 : others (l.drop (k + 1)) l[k].iface = l.drop (k + 1) := others_none (fun j hj => by
    rw [List.length_drop] at hj
    rw [List.getElem_drop]
    exact up_ne hp (by omega) hk (by omega))
  have h3 : others (l.drop k) l[k].iface = others (l.drop (k + 1)) l[k].iface := by
    rw [List.drop_eq_getElem_cons hk]
    unfold others
    rw [List.filter_cons_of_neg (by simp)]
  rw [others_cut l k, h1, h3, h2]
/-- the row while it is shifted -/
def shift (l : List Lk) (k t : Nat) : List Lk := l.take k ++ ((l.drop (k + 1)).take t ++ l.drop (k + t))
theorem shift_zero (l : List Lk) (k : Nat) : shift l k 0 = l := by unfold shift; simp
theorem shift_len (l : List Lk) (k t : Nat) (h : k + 1 + t ≤ l.length) : (shift l k t).length = l.length := by
  unfold shift
  rw [List.length_append, List.length_append, List.length_take, List.length_take, List.length_drop, List.length_drop]
  omega
theorem shift_get (l : List Lk) (k t : Nat) (h : k + 1 + t ≤ l.length) (j : Nat) : (shift l k t)[j]? = if j < k then l[j]? else if j < k + t then l[j + 1]? else l[j]? := by
  unfold shift
  rw [List.getElem?_append, List.length_take, Nat.min_eq_left (by omega)]
  by_cases h1 : j < k
  · rw [if_pos h1, if_pos h1, List.getElem?_take_of_lt h1]
  · rw [if_neg h1, if_neg h1, List.getElem?_append, List.length_take, List.length_drop, Nat.min_eq_left (by omega)]
    by_cases h2 : j < k + t
    · rw [if_pos (by omega), if_pos h2, List.getElem?_take_of_lt (by omega), List.getElem?_drop]
      congr 1
      omega
    · rw [if_neg (by omega), if_neg h2, List.getElem?_drop]
      congr 1
      omega
theorem shift_at (l : List Lk) (k t : Nat) (h : k + 1 + t < l.length) (h2 : k + 1 + t < (shift l k t).length) : (shift l k t)[k + 1 + t] = l[k + 1 + t] := by
  have e := shift_get l k t (by omega) (k + 1 + t)
  rw [if_neg (by omega), if_neg (by omega), List.getElem?_eq_getElem h2, List.getElem?_eq_getElem h] at e
  exact Option.some.inj e
theorem shift_step (l : List Lk) (k t : Nat) (h : k + 1 + t < l.length) : (shift l k t).set (k + t) l[k + 1 + t] = shift l k (t + 1) := by
  apply List.ext_getElem?
  intro j
  rw [List.getElem?_set, shift_len l k t (by omega), shift_get l k t (by omega), shift_get l k (t + 1) (by omega)]
  by_cases hj : k + t = j
  · subst hj
    rw [if_pos rfl, if_pos (by omega), if_neg (by omega), if_pos (by omega), ← List.getElem?_eq_getElem h]
    congr 1
    omega
  · rw [if_neg hj]
    by_cases h1 : j < k
    · rw [if_pos h1, if_pos h1]
    · rw [if_neg h1, if_neg h1]
      by_cases h2 : j < k + t
      · rw [if_pos h2, if_pos (by omega)]
      · rw [if_neg h2, if_neg (by omega)]
theorem shift_end (l : List Lk) (k : Nat) (h : k < l.length) : (shift l k (l.length - 1 - k)).take (l.length - 1) = l.take k ++ l.drop (k + 1) := by
  unfold shift
  rw [← List.append_assoc, List.take_append_of_le_length (by rw [List.length_append, List.length_take, List.length_take, List.length_drop]; omega), List.take_of_length_le (by rw [List.length_append, List.length_take, List.length_take, List.length_drop]; omega), List.take_of_length_le (l := l.drop (k + 1)) (by rw [List.length_drop]; omega)]
theorem lkCs_set (m : List Lk) (x : Lk) : ∀ j, j < m.length → ((lkCs m).set (j * 2) (.int .i64 x.iface)).set (j * 2 + 1) (.int .i64 x.peer) = lkCs (m.set j x) := by
  induction m with
  | nil => intro j h; simp at h
  | cons s m ih =>
    intro j h
    cases j with
    | zero => rfl
    | succ j =>
      have := ih j (by simpa using h)
      show ((.int .i64 s.iface :: .int .i64 s.peer :: lkCs m : List Value).set ((j + 1) * 2) _).set ((j + 1) * 2 + 1) _ = .int .i64 s.iface :: .int .i64 s.peer :: lkCs (m.set j x)
      rw [show (j + 1) * 2 = j * 2 + 1 + 1 by omega]
      simp only [List.set_cons_succ]
      rw [this]
theorem lkCs_take (l : List Lk) : ∀ j, (lkCs l).take (j * 2) = lkCs (l.take j) := by
  induction l with
  | nil => intro j; simp [lkCs]
  | cons g l ih =>
    intro j
    cases j with
    | zero => simp [lkCs]
    | succ j =>
      show (lkC g ++ lkCs l).take ((j + 1) * 2) = lkC g ++ lkCs (l.take j)
      rw [← ih j, show (j + 1) * 2 = (lkC g).length + j * 2 by show _ = 2 + _; omega, List.take_length_add_append]
theorem rise_ok (l : List Lk) : ∀ p, rise p l = true → ∀ x ∈ l, okK x = true := by
  induction l with
  | nil => intro p h x hx; cases hx
  | cons s l ih =>
    intro p h x hx
    cases p with
    | none =>
      simp only [rise, Bool.and_eq_true] at h
      rcases List.mem_cons.1 hx with rfl | hx
      · exact h.1
      · exact ih _ h.2 x hx
    | some r =>
      simp only [rise, Bool.and_eq_true] at h
      rcases List.mem_cons.1 hx with rfl | hx
      · exact h.1.1
      · exact ih _ h.2 x hx
theorem okL_mem {l : List Lk} (h : okL l = true) {x : Lk} (hx : x ∈ l) : okK x = true := by
  unfold okL at h
  simp only [Bool.and_eq_true] at h
  exact rise_ok l none h.2 x hx
end Go.Proofs.YtbglbegljkgknaaGreat.Lk
namespace Go.Proofs.YtbglbegljkgknaaGreat.Lk
theorem all_behind {l : List Lk} {i : Int} (h : ∀ x ∈ l, i < x.iface) : aheadL l i = [] ∧ ofL l i = [] ∧ behindL l i = l ∧ others l i = l := by
  unfold aheadL ofL behindL others
  refine ⟨List.filter_eq_nil_iff.2 (fun x hx => by have := h x hx; simp; omega), List.filter_eq_nil_iff.2 (fun x hx => by have := h x hx; simp; omega), List.filter_eq_self.2 (fun x hx => by have := h x hx; simpa using this), List.filter_eq_self.2 (fun x hx => by have := h x hx; simp; omega)⟩
theorem others_split {l : List Lk} (h : l.Pairwise (fun x y => x.iface < y.iface)) (i : Int) : others l i = aheadL l i ++ behindL l i ∧ l.length = (others l i).length + (ofL l i).length := by
  induction l with
  | nil => exact ⟨rfl, rfl⟩
  | cons s t ih =>
    rw [List.pairwise_cons] at h
    obtain ⟨h1, h2⟩ := ih h.2
    have eA : aheadL (s :: t) i = (if s.iface < i then [s] else []) ++ aheadL t i := by
      unfold aheadL; by_cases q : s.iface < i <;> simp [q]
    have eB : behindL (s :: t) i = (if i < s.iface then [s] else []) ++ behindL t i := by
      unfold behindL; by_cases q : i < s.iface <;> simp [q]
    have eO : others (s :: t) i = (if s.iface = i then [] else [s]) ++ others t i := by
      unfold others; by_cases q : s.iface = i <;> simp [q]
    have eF : ofL (s :: t) i = (if s.iface = i then [s] else []) ++ ofL t i := by
      unfold ofL; by_cases q : s.iface = i <;> simp [q]
    rcases Int.lt_trichotomy s.iface i with q | q | q
    · have n1 : ¬ i < s.iface := by omega
      have n2 : ¬ s.iface = i := by omega
      rw [eA, eB, eO, eF, h1]
      simp only [if_pos q, if_neg n1, if_neg n2]
      refine ⟨by simp, ?_⟩
      rw [h1] at h2
      simp only [List.length_cons, List.length_append, List.length_nil] at h2 ⊢
      omega
    · obtain ⟨b1, b2, b3, b4⟩ := all_behind (l := t) (i := i) (fun x hx => by have := h.1 x hx; omega)
      have n1 : ¬ s.iface < i := by omega
      have n2 : ¬ i < s.iface := by omega
      rw [eA, eB, eO, eF, b1, b2, b3, b4]
      simp only [if_pos q, if_neg n1, if_neg n2]
      exact ⟨rfl, by simp⟩
    · obtain ⟨b1, b2, b3, b4⟩ := all_behind (l := t) (i := i) (fun x hx => by have := h.1 x hx; omega)
      have n1 : ¬ s.iface < i := by omega
      have n2 : ¬ s.iface = i := by omega
      rw [eA, eB, eO, eF, b1, b2, b3, b4]
      simp only [if_pos q, if_neg n1, if_neg n2]
      exact ⟨rfl, by simp⟩
end Go.Proofs.YtbglbegljkgknaaGreat.Lk
namespace Go.Proofs.YtbglbegljkgknaaGreat.Fib
open Go.RowKit
open Go.Proofs.YtbglbegljkgknaaGreat.Addr (Pf okP rightB hasB hiN loN RowAt RowAt.cell RowAt.lt)
open Go.Proofs.YtbglbegljkgknaaGreat.Msg (Ev Ac okE FitE)
open Go.Proofs.YtbglbegljkgknaaGreat.Lk (Lk HasLks HasRow okL peerL delL FitL)
open Go.Proofs.YtbglbegljkgknaaGreat.Tr (Rt HasRts okT putT delT FitR rtCs)
/-- a router, plain -/
structure Ro where
  id : Int
  up : Bool
  rts : List Rt
  lks : List Lk
def roV (R : Ro) (a b : Value) : Value := .agg #[.int .i64 R.id, .bool R.up, a, b]
def okId (i : Int) : Bool := decide (0 ≤ i) && decide (i ≤ 1048576)
def okRo (R : Ro) : Bool := okId R.id && okT R.rts && okL R.lks && (R.up || decide (R.rts.length + R.lks.length = 0))
def checkRo (R : Ro) : Int := if okRo R then 0 else 2
def zeroRo : Ro := ⟨0, false, [], []⟩
def makeRo (i : Int) : Ro × Int := if okId i then (⟨i, false, [], []⟩, 0) else (zeroRo, 1)
def sizeRo (R : Ro) : Int × Int := if okRo R then (((R.rts.length + R.lks.length : Nat) : Int), 0) else (0, 2)
def misRo (R : Ro) (e : Ev) : Int := if e.router = R.id then (if decide (e.kind = 1) = R.up then 10 else 0) else 14
def takeRo (R : Ro) (e : Ev) : Ro × Int :=
  if e.kind = 1 then (⟨R.id, true, R.rts, R.lks⟩, 0)
  else if e.kind = 2 then (⟨R.id, false, [], []⟩, 0)
  else if e.kind = 3 then (⟨R.id, R.up, (putT R.rts ⟨e.pf, e.act⟩).1, R.lks⟩, (putT R.rts ⟨e.pf, e.act⟩).2)
  else if e.kind = 4 then (⟨R.id, R.up, (delT R.rts e.pf).1, R.lks⟩, 0)
  else if e.kind = 5 then (⟨R.id, R.up, R.rts, (Lk.putL R.lks ⟨e.iface, e.peer⟩).1⟩, (Lk.putL R.lks ⟨e.iface, e.peer⟩).2)
  else if e.kind = 6 then (⟨R.id, R.up, R.rts, (delL R.lks e.iface).1⟩, 0)
  else (R, 0)
def applyRo (R : Ro) (e : Ev) : Ro × Int := if okRo R && okE e then (if misRo R e = 0 then takeRo R e else (R, misRo R e)) else (zeroRo, 2)
/-- what becomes of a packet: kind, peer -/
def sendsRo (R : Ro) (i : Int) : Nat × Int := if (peerL R.lks i).2 = 0 then (1, (peerL R.lks i).1) else (0, 0)
def doesRo (R : Ro) (a : Ac) : Nat × Int := if a.k = 1 then sendsRo R a.i else if a.k = 2 then (2, 0) else if a.k = 3 then (3, 0) else (0, 0)
structure FitRo (R : Ro) : Prop where
  id : -9223372036854775808 ≤ R.id ∧ R.id ≤ 9223372036854775807
  rts : ∀ x ∈ R.rts, FitR x
  lks : ∀ x ∈ R.lks, FitL x
/-- rows stand apart from a box of a router -/
theorem row_apart {W W' : World} {v : Value} {sz n B : Nat} {cs : List Value} (h : HasRow W v sz n cs) (hg : W.grownBy W' (some B)) (hne : ∀ b i m c, v = .slice (some ⟨b, i, none⟩) m c → 0 < n → b ≠ B) : HasRow W' v sz n cs := by
  refine ⟨h.1, ?_⟩
  rcases h.2 with h0 | ⟨a, cap, e, h1, h2, h3, h4⟩
  · exact .inl h0
  · refine .inr ⟨a, cap, e, h1, h2, fun hp => ⟨(h3 hp).1, Nat.lt_of_lt_of_le (h3 hp).2 hg.size⟩, fun j hj => ?_⟩
    have hn : 0 < n := by
      rcases Nat.eq_zero_or_pos n with h0 | h0
      · subst h0; omega
      · exact h0
    obtain ⟨h5, h6⟩ := h3 hn
    obtain ⟨b, i, s⟩ := a
    simp only at h5 h6
    subst h5
    have hb := hne b i n cap e hn
    rw [Lk.addr_add] at *
    rw [← h4 j hj, Lk.addr_add]
    unfold World.cell?
    simp only
    rw [hg.block b h6 (fun e => by injection e with e; exact hb e)]
theorem rts_apart {W W' : World} {v : Value} {l : List Rt} {B : Nat} {c0 c1 c2 c3 : Value} {t : TypeId} (h : HasRts W v l) (hr : RowAt W B [c0, c1, c2, c3] t) (hg : W.grownBy W' (some B)) : HasRts W' v l := by
  refine row_apart h hg (fun b i m c e hp hb => ?_)
  subst hb
  subst e
  obtain ⟨b', i', e', _, hc⟩ := Tr.HasRts.cell h 0 hp
  injection e' with e'
  injection e' with e1 e2
  subst e1 e2
  have := hc 4 (by omega)
  rw [RowAt.cell hr] at this
  rw [List.getElem?_eq_none (by simp)] at this
  cases this
theorem lks_apart {W W' : World} {v : Value} {l : List Lk} {B : Nat} {k0 : IntKind} {i0 : Int} {u : Bool} {o2 o3 : Option Addr} {n2 n3 m2 m3 : Nat} {t : TypeId} (h : HasLks W v l) (hr : RowAt W B [.int k0 i0, .bool u, .slice o2 n2 m2, .slice o3 n3 m3] t) (hg : W.grownBy W' (some B)) : HasLks W' v l := by
  refine row_apart h hg (fun b i m c e hp hb => ?_)
  subst hb
  subst e
  obtain ⟨b', i', e', _, hc⟩ := Lk.HasLks.cell h 0 hp
  injection e' with e'
  injection e' with e1 e2
  subst e1 e2
  obtain ⟨h0, h1⟩ := hc
  rw [RowAt.cell hr] at h0 h1
  simp only [Nat.zero_mul, Nat.add_zero] at h0 h1
  rcases i with _ | _ | _ | _ | i
  · simp at h1
  · simp at h0
  · simp at h0
  · simp at h0
  · rw [List.getElem?_eq_none (by simp)] at h0
    cases h0
theorem okRo_parts {R : Ro} (h : okRo R = true) : okId R.id = true ∧ okT R.rts = true ∧ okL R.lks = true ∧ R.rts.length ≤ 256 ∧ R.lks.length ≤ 32 ∧ (R.up = false → R.rts = [] ∧ R.lks = []) := by
  unfold okRo at h
  simp only [Bool.and_eq_true, Bool.or_eq_true, decide_eq_true_eq] at h
  obtain ⟨⟨⟨h1, h2⟩, h3⟩, h4⟩ := h
  refine ⟨h1, h2, h3, ((Tr.okT_iff _).1 h2).1, Lk.okL_len2 h3, fun hu => ?_⟩
  rcases h4 with h4 | h4
  · rw [hu] at h4; cases h4
  · exact ⟨List.length_eq_zero_iff.1 (by omega), List.length_eq_zero_iff.1 (by omega)⟩
end Go.Proofs.YtbglbegljkgknaaGreat.Fib
