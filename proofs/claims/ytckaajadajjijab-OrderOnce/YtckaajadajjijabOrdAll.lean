/- What order.All answers. -/
import Derived.Test.YtckaajadajjijabOrdNext
import Derived.Test.YtckaajadajjijabOrdEv
set_option linter.unusedVariables false
namespace Go.Proofs.Ytckaajadajjijab.Ord
open Go.RowKit Go.Shelf
open Go.Proofs.Ytckaajadajjijab.Msg (Ev okE checkE evV evC FitE echeck_any cells12' gkeep gsetO results_cell_tmp1)
open Go.Proofs.Ytckaajadajjijab.Addr (hiN loN RowAt below2 below_drew below_new bset RowAt.lt RowAt.cell RowAt.frozen RowAt.below RowAt.drew RowAt.new RowAt.alloc gdrew gset gbelow galloc grefl gfinal cells2 cells4 results_cell Bl bl_ne wp_region_bl bl_call bl_same)
attribute [-go_sem] Builtin.append_

theorem all_step (h : Int) (l : List St) (es : List Ev) (k : Nat) (hk : k < es.length) : allL h l (es.drop k) k = if (nextL l es[k] h).2 = 0 then allL h (nextL l es[k] h).1 (es.drop (k + 1)) (k + 1) else (l, k, (nextL l es[k] h).2) := by
  rw [List.drop_eq_getElem_cons hk, allL]
set_option maxHeartbeats 8000000 in
set_option maxRecDepth 20000 in
theorem all_any (l : List St) (v : Value) (es : List Ev) (ve : Value) (h : Int) (w : World) (hl : HasSts w v l) (he : HasEvs w ve es) (hf : ∀ e ∈ es, FitE e) (hln : l.length ≤ 1000000000) :
    Calls Try.prog 22 #[v, ve, .int .i64 h] w fun r w' => ∃ u, r = .returned (.tuple #[u, .int .i64 ((allL h l es 0).2.1 : Int), .int .i64 (allL h l es 0).2.2]) ∧ (HasSts w' u (allL h l es 0).1 ∧ NewIn w u) ∧ Below w.heap.size w w' := by
  obtain ⟨o, c, rfl, hc1, hc2⟩ := HasRow.slice he
  have HR : Hid (∀ wr : World, Below w.heap.size w wr → HasEvs wr (.slice o es.length c) es) := fun wr hb => he.keep hb
  have cc := clone_any l v w hl hln
  obtain ⟨n, hn⟩ : ∃ n, n = es.length := ⟨_, rfl⟩
  have HN : Hid (n = es.length) := hn
  have HF : Hid (∀ e ∈ es, FitE e) := hf
  rw [← hn] at HR hc1 ⊢
  have hni : (n : Int) ≤ 9223372036854775807 := by omega
  obtain ⟨R, hR⟩ : ∃ R, R = allL h l es 0 := ⟨_, rfl⟩
  have HD : Hid (R = allL h l (es.drop 0) 0) := hR
  rw [← hR]
  clear hl he hf hn hR
  go_enter Try.func22, Try.ntmps22
  go_wp2_with fail
  go_at_call 33; refine cc.mono ?_; rintro e w1 ⟨u, rfl, ho1, hb1⟩
  have hs1 : Hid (HasSts w1 u l) := hasRow_own ho1
  have hn1 : Hid (NewIn w u) := newIn_own ho1 (Nat.le_refl _)
  clear ho1 cc
  go_wp2_with fail
  go_loopw [9, 18] (fun s i wr => ∃ (k : Nat) (m : List St), k ≤ n ∧ i = .int .i64 k ∧ Below w.heap.size w wr ∧ Hid (HasSts wr s m) ∧ Hid (NewIn w s) ∧ Hid (R = allL h m (es.drop k) k)) (fun _ i _ => n - (intOf i).toNat)
  case atStart => exact ⟨0, l, by omega, rfl, hb1, hs1, hn1, HD⟩
  case round =>
    obtain ⟨k, m, hk, rfl, hB, HS, HNW, HG⟩ := hrel
    have hh := HR.out _ hB
    by_cases hlt : k < n
    · have hkz : k < es.length := by rw [← HN.out]; exact hlt
      obtain ⟨g1, i1, rfl, hg1, a0, a1, a2, a3, a4, a5, a6, a7, a8, a9, a10, a11⟩ := HasEvs.cell hh k hkz
      have hfe := HF.out es[k] (List.getElem_mem hkz)
      have HB1 : Hid ((nextL m es[k] h).2 = 0 → R = allL h (nextL m es[k] h).1 (es.drop (k + 1)) (k + 1)) := fun e => by rw [HG.out, all_step h m es k hkz, if_pos e]
      have HB2 : Hid ((nextL m es[k] h).2 ≠ 0 → R = (m, k, (nextL m es[k] h).2)) := fun e => by rw [HG.out, all_step h m es k hkz, if_neg e]
      have hki : (k : Int) < (n : Int) := by omega
      obtain ⟨e0, he0⟩ : ∃ e0 : Ev, e0 = es[k] := ⟨_, rfl⟩
      rw [← he0] at a0 a1 a2 a3 a4 a5 a6 a7 a8 a9 a10 a11 HB1 HB2 hfe
      clear he0 HG hg1
      go_upto_region 5 with fail
      obtain ⟨X, hX⟩ : ∃ X, X = wr.alloc (.cells #[.int .u8 (e0.kind : Int), .int .i64 e0.router, .int .u64 (e0.seq : Int), .int .i64 e0.time, .bool e0.pf.six, .int .u64 (hiN e0.pf.n : Int), .int .u64 (loN e0.pf.n : Int), .int .i64 e0.pf.len, .int .u8 (e0.act.k : Int), .int .i64 e0.act.i, .int .i64 e0.iface, .int .i64 e0.peer] 39) := ⟨_, rfl⟩
      have hbX : Below wr.heap.size wr X := by rw [hX]; exact below_new (Below.refl _ _) _
      have r0 : RowAt X wr.heap.size [.int .u8 (e0.kind : Int), .int .i64 e0.router, .int .u64 (e0.seq : Int), .int .i64 e0.time, .bool e0.pf.six, .int .u64 (hiN e0.pf.n : Int), .int .u64 (loN e0.pf.n : Int), .int .i64 e0.pf.len, .int .u8 (e0.act.k : Int), .int .i64 e0.act.i, .int .i64 e0.iface, .int .i64 e0.peer] 39 := by rw [hX]; exact RowAt.new _ _ _
      rw [← hX]
      have hBX := below2 hB hbX
      have cn : Calls Try.prog 12 #[u9, .agg #[.int .u8 (e0.kind : Int), .int .i64 e0.router, .int .u64 (e0.seq : Int), .int .i64 e0.time, .bool e0.pf.six, .int .u64 (hiN e0.pf.n : Int), .int .u64 (loN e0.pf.n : Int), .int .i64 e0.pf.len, .int .u8 (e0.act.k : Int), .int .i64 e0.act.i, .int .i64 e0.iface, .int .i64 e0.peer], .int .i64 h] X fun r w' => ∃ u, r = .returned (.tuple #[u, .int .i64 (nextL m e0 h).2]) ∧ (HasSts w' u (nextL m e0 h).1 ∧ NewIn X u) ∧ Below X.heap.size X w' := next_any m u9 e0 h X (HS.out.keep hbX) hfe
      have HSX : Hid (HasSts X u9 m) := HS.out.keep hbX
      clear hX a0 a1 a2 a3 a4 a5 a6 a7 a8 a9 a10 a11 hh HS hbX
      obtain ⟨gs, hgs⟩ : ∃ g, g = wr.heap.size := ⟨_, rfl⟩
      rw [← hgs] at r0 ⊢
      clear hgs
      obtain ⟨⟨y0, y1, y2, y3, y4, y5⟩, ⟨y6, y7, y8, y9, y10, y11⟩, yf, hly⟩ := cells12' r0
      go_wp2_with fail
      go_at_call 12; refine cn.mono ?_; rintro e w2 ⟨u2, rfl, ⟨hs2, hn2⟩, hb2⟩
      have hW := below2 hBX hb2
      have HN2 : Hid (NewIn w u2) := newIn_le hn2 hBX.size
      clear hn2
      have HS2 : Hid (HasSts w2 u2 (nextL m e0 h).1) := hs2
      have HS3 : Hid (HasSts w2 u9 m) := HSX.out.keep hb2
      clear cn hs2 hb2 hBX HSX y0 y1 y2 y3 y4 y5 y6 y7 y8 y9 y10 y11 yf hly r0 hfe
      generalize nextL m e0 h = N at *
      obtain ⟨m2, y⟩ := N
      simp only at HB1 HB2 HS2 ⊢
      by_cases hy : y = 0
      · have HR1 : Hid (R = allL h m2 (es.drop (k + 1)) (k + 1)) := HB1.out hy
        subst hy
        clear HB1 HB2 HS3
        go_wp2_with fail
        go_roundw
        case rel => exact ⟨k + 1, m2, by omega, by go_num, hW, HS2, HN2, HR1⟩
        case measure => simp [intOf]; omega
      · have HR1 : Hid (R = (m, k, y)) := HB2.out hy
        have q1 : (y == 0) = false := beq_eq_false_iff_ne.2 hy
        have q2 : (y != 0) = true := bne_iff_ne.2 hy
        clear HB1 HB2 HS2 hy
        go_wp2_with fail
        go_ret3
        exact ⟨u9, by rw [HR1.out]; rfl, by rw [HR1.out]; exact ⟨HS3.out, HNW.out⟩, hW⟩
    · obtain rfl : k = n := by omega
      have HR1 : Hid (R = (m, k, 0)) := by
        show _ = _
        rw [HG.out, List.drop_of_length_le (by rw [← HN.out]; exact Nat.le_refl _)]
        rfl
      clear hh HG
      go_wp2_with fail
      go_ret3
      exact ⟨u9, by rw [HR1.out]; rfl, by rw [HR1.out]; exact ⟨HS.out, HNW.out⟩, hB⟩
end Go.Proofs.Ytckaajadajjijab.Ord
