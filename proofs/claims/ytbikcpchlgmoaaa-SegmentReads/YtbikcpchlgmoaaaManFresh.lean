/- What fresh.Disk returns. -/
import Derived.Test.YtbikcpchlgmoaaaDiskRef4
set_option linter.unusedVariables false
namespace Go.Proofs.Ytbikcpchlgmoaaa.Disk
open Go.RowKit Go.Shelf

theorem own_stay {w w' : World} {B e size n : Nat} {v : Value} {xs : List Value} (h : w.ownsRow B e size v n xs) (hb : Below w.heap.size w w') : w'.ownsRow B e size v n xs := by
  refine h.kept (row := none) ⟨hb.os, hb.tape, hb.output, hb.size, fun k hk _ => hb.block k hk⟩ ?_
  rcases h.2 with ⟨rfl, _⟩ | ⟨g, cap, cur, rfl, _⟩
  · exact .inl rfl
  · exact .inr (fun e => by simp [Value.ownBlock] at e)
theorem Own2.stay {w Y Y' : World} {d : Dk} {so co : Option Addr} {sc cc : Nat} (h : Own2 w Y d so co sc cc) (hb : Below Y.heap.size Y Y') : Own2 w Y' d so co sc cc :=
  ⟨h.box.below hb, h.res.below hb, own_stay h.secs hb, own_stay h.puts hb, below2 h.below hb⟩
theorem Own2.again {w Y : World} {d : Dk} {g : Nat} {co : Option Addr} {sc cc k : Nat} (h : Own2 w Y d (some ⟨g, 0, none⟩) co sc cc) (hk : k < d.secs.length) : Own2 w (Y.setCell ⟨g, k, none⟩ (strV d.secs[k])) d (some ⟨g, 0, none⟩) co sc cc := by
  have hg := (h.secs.lt g rfl).1
  refine ⟨h.box.kept (grown_set _ _ _ _) (by simp; omega), h.res.kept (grown_set _ _ _ _) (by simp; omega), ?_, h.puts.kept (grown_set _ _ _ _) ?_, h.below.setCell (p := ⟨g, k, none⟩) (by simp; omega) _⟩
  · have := (h.secs.stored k (strV d.secs[k])).1
    rw [← List.map_set, List.set_getElem_self] at this; exact this
  · have := own_apart h.puts h.secs (by decide)
    simpa [Value.ownBlock] using this
theorem Own2.again2 {w Y : World} {d : Dk} {g : Nat} {so : Option Addr} {sc cc k : Nat} (h : Own2 w Y d so (some ⟨g, 0, none⟩) sc cc) (hk : k < d.cache.length) : Own2 w (Y.setCell ⟨g, k * 2 + 1, none⟩ (strV d.cache[k].2)) d so (some ⟨g, 0, none⟩) sc cc := by
  have hg := (h.puts.lt g rfl).1
  refine ⟨h.box.kept (grown_set _ _ _ _) (by simp; omega), h.res.kept (grown_set _ _ _ _) (by simp; omega), h.secs.kept (grown_set _ _ _ _) ?_, ?_, h.below.setCell (p := ⟨g, k * 2 + 1, none⟩) (by simp; omega) _⟩
  · have := own_apart h.secs h.puts (by decide)
    simpa [Value.ownBlock] using this
  · have := (h.puts.stored (k * 2 + 1) (strV d.cache[k].2)).1
    rw [putCs_same d.cache k hk] at this; exact this
set_option maxHeartbeats 2000000 in
theorem fresh_any (d : Dk) (v : Value) (w : World) (h : HasDk w v d) (hok : Ok d) :
    Calls Try.prog 26 #[v] w fun e w' => ∃ u, e = .returned u ∧ HasDk w' u d ∧ Below w.heap.size w w' := by
  obtain ⟨so, sc, co, cc, rfl, hs, hc⟩ := h.parts
  obtain ⟨X, hX⟩ : ∃ X, X = (w.alloc (.cells #[.slice so d.secs.length sc, .slice co d.cache.length cc, .int .i64 d.fuse, .bool d.off] 25)).alloc (.cells #[.slice none 0 0, .slice none 0 0, .int .i64 0, .bool false] 25) := ⟨_, rfl⟩
  have hB0 : Below w.heap.size w X := by rw [hX]; exact ((Below.refl _ w).alloc (Nat.le_refl _) _).alloc (by simp) _
  have hXs : X.heap.size = w.heap.size + 2 := by rw [hX]; simp
  have va : VBox X w.heap.size (.slice so d.secs.length sc) (.slice co d.cache.length cc) (.int .i64 d.fuse) (.bool d.off) := by
    rw [hX]; exact VBox.below (World.alloc_heap_new _ _) ((Below.refl _ _).alloc (Nat.le_refl _) _)
  have vr : RBox X (w.heap.size + 1) := by
    have := heap_alloc_new (w.alloc (.cells #[.slice so d.secs.length sc, .slice co d.cache.length cc, .int .i64 d.fuse, .bool d.off] 25)) (.cells #[.slice none 0 0, .slice none 0 0, .int .i64 0, .bool false] 25)
    rw [World.size_alloc, ← hX] at this
    exact this
  have hn9 : d.secs.length ≤ 1024 := hok.many
  have hm9 : d.cache.length ≤ 4096 := hok.few
  have C1 : Hid (∀ W, Below X.heap.size X W → Calls Try.prog 54 #[.slice so d.secs.length sc] W fun e w' => ∃ uo uc, e = .returned (.slice uo d.secs.length uc) ∧ Hid (w'.ownsRow W.heap.size 9 1 (.slice uo d.secs.length uc) d.secs.length (d.secs.map strV)) ∧ Below W.heap.size W w') := by
    intro W hb
    refine (clone_strs d.secs _ W ((hs.keep hB0).keep hb) (by omega)).mono ?_
    rintro e w' ⟨u, rfl, ho, hb'⟩
    obtain ⟨uo, uc, rfl, _, _⟩ := HasRow.slice (hasRow_own ho)
    exact ⟨uo, uc, rfl, ho, hb'⟩
  have C2 : Hid (∀ W, Below X.heap.size X W → Calls Try.prog 55 #[.slice co d.cache.length cc] W fun e w' => ∃ uo uc, e = .returned (.slice uo d.cache.length uc) ∧ Hid (w'.ownsRow W.heap.size 67 2 (.slice uo d.cache.length uc) d.cache.length (putCs d.cache)) ∧ Below W.heap.size W w') := by
    intro W hb
    refine (clone_puts d.cache _ W ((hc.keep hB0).keep hb) (by omega)).mono ?_
    rintro e w' ⟨u, rfl, ho, hb'⟩
    obtain ⟨uo, uc, rfl, _, _⟩ := HasRow.slice (hasRow_own ho)
    exact ⟨uo, uc, rfl, ho, hb'⟩
  have HK : Hid (Ok d) := hok
  clear hs hc h hok
  obtain ⟨q0, q1, q2, q3, qf⟩ := va.cells
  go_enter Try.func26, Try.ntmps26
  go_upto_region 1 with fail
  rw [← hX]
  clear hX
  go_region_with (first
    | (go_at_call 54
       refine (C1.out _ (Below.refl _ _).drew).mono ?_
       rintro e w1 ⟨uo, uc, rfl, ho1, hb1'⟩
       have hb1 : Below X.heap.size X w1 := below2 (Below.refl _ _).drew hb1'
       obtain ⟨q0, q1, q2, q3, qf⟩ := (va.below hb1).cells)
    | (go_at_call 55
       refine (C2.out _ hb1).mono ?_
       rintro e w2 ⟨vo, vc, rfl, ho2, hb2⟩
       have hb3 : Below X.heap.size X w2 := below2 hb1 hb2
       obtain ⟨q0, q1, q2, q3, qf⟩ := (va.below hb3).cells))
  all_goals
    have HY : Hid (Own2 w ((w2.setCell ⟨w.heap.size, 0, none⟩ (.slice uo d.secs.length uc)).setCell ⟨w.heap.size, 1, none⟩ (.slice vo d.cache.length vc)) d uo vo uc vc) := by
      have hz1 := hb1.size
      have hz2 := hb2.size
      have v1 := heap_setCell_same w2 w.heap.size 0 _ _ (.slice uo d.secs.length uc) (va.below hb3)
      have v2 := heap_setCell_same _ w.heap.size 1 _ _ (.slice vo d.cache.length vc) v1
      refine ⟨v2, ((vr.below hb3).kept (grown_set _ _ _ _) (by simp)).kept (grown_set _ _ _ _) (by simp), ?_, ?_, ((below2 hB0 hb3).setCell (p := ⟨w.heap.size, 0, none⟩) (Nat.le_refl _) _).setCell (p := ⟨w.heap.size, 1, none⟩) (Nat.le_refl _) _⟩
      · have o1 := own_down (own_stay ho1.out hb2) (show w.heap.size + 2 ≤ X.drew.heap.size by simp; omega)
        have hne : (Value.slice uo d.secs.length uc).ownBlock = none ∨ (Value.slice uo d.secs.length uc).ownBlock ≠ some w.heap.size := by
          cases uo with
          | none => exact .inl rfl
          | some a => exact .inr (by have := (o1.lt a.block rfl).1; simp [Value.ownBlock]; omega)
        exact (o1.kept (grown_set _ _ _ _) hne).kept (grown_set _ _ _ _) hne
      · have o1 := own_down ho2.out (show w.heap.size + 2 ≤ w1.heap.size by omega)
        have hne : (Value.slice vo d.cache.length vc).ownBlock = none ∨ (Value.slice vo d.cache.length vc).ownBlock ≠ some w.heap.size := by
          cases vo with
          | none => exact .inl rfl
          | some a => exact .inr (by have := (o1.lt a.block rfl).1; simp [Value.ownBlock]; omega)
        exact (o1.kept (grown_set _ _ _ _) hne).kept (grown_set _ _ _ _) hne
    obtain ⟨Y, hY⟩ : ∃ Y, Y = (w2.setCell ⟨w.heap.size, 0, none⟩ (.slice uo d.secs.length uc)).setCell ⟨w.heap.size, 1, none⟩ (.slice vo d.cache.length vc) := ⟨_, rfl⟩
    rw [← hY] at HY ⊢
    clear hY ho1 ho2 hb1 hb2 hb3 C1 C2 va vr
    obtain ⟨q0, q1, q2, q3, qf⟩ := HY.out.box.cells
    go_wp2_with fail
    go_loopw [16] (fun i wr => ∃ k : Nat, k ≤ d.secs.length ∧ i = .int .i64 k ∧ Hid (Own2 w wr d uo vo uc vc)) (fun i _ => d.secs.length - (intOf i).toNat)
    case atStart => exact ⟨0, Nat.zero_le _, rfl, HY⟩
    case round =>
      obtain ⟨k, hk, rfl, HO⟩ := hrel
      obtain ⟨q0, q1, q2, q3, qf⟩ := HO.out.box.cells
      by_cases hlt : k < d.secs.length
      · obtain ⟨g1, cap1, e⟩ : ∃ g1 cap1, Value.slice uo d.secs.length uc = .slice (some ⟨g1, 0, none⟩) d.secs.length cap1 := by
          have ho := HO.out.secs
          obtain ⟨n', hn'⟩ : ∃ n', d.secs.length = n' + 1 := ⟨d.secs.length - 1, by omega⟩
          rw [hn'] at ho ⊢
          exact ownsRow_succ ho
        injection e with e1 e2 e3
        subst e1; subst e3
        have c0 : wr.cell? ⟨g1, k, none⟩ = some (strV d.secs[k]) := by
          rw [HO.out.secs.cellAt k (by omega), List.getElem?_map, List.getElem?_eq_getElem hlt]; rfl
        have HG : Hid (∀ W, Own2 w W d (some ⟨g1, 0, none⟩) vo uc vc → Own2 w (W.setCell ⟨g1, k, none⟩ (strV d.secs[k])) d (some ⟨g1, 0, none⟩) vo uc vc ∧ W.cell? ⟨g1, k, none⟩ = some (strV d.secs[k]) ∧ W.frozen? ⟨g1, k, none⟩ = false) := fun W hW => ⟨hW.again hlt, by
          rw [hW.secs.cellAt k (by omega), List.getElem?_map, List.getElem?_eq_getElem hlt]; rfl, hW.secs.frozenAt k⟩
        have hzl := HK.out.whole d.secs[k] (List.getElem_mem hlt)
        have cl := fun w => clone_any ⟨d.secs[k].toArray⟩ w (by rw [size_list]; omega)
        unfold strV at c0 HG
        have hki : (k : Int) < (d.secs.length : Int) := by omega
        generalize (⟨d.secs[k].toArray⟩ : ByteArray) = Z at c0 HG cl
        clear hzl
        go_wp2_with fail
        go_region_with (
          go_at_call 56
          refine (cl _).mono ?_
          rintro e w4 ⟨rfl, hb4⟩
          have hb5 : Below wr.heap.size wr w4 := below2 (by (repeat' (first | exact Below.refl _ _ | refine Below.drew ?_))) hb4
          have HO4 : Hid (Own2 w w4 d (some ⟨g1, 0, none⟩) vo uc vc) := HO.out.stay hb5
          obtain ⟨q0, q1, q2, q3, qf⟩ := HO4.out.box.cells
          obtain ⟨t1, t2, t3⟩ := HG.out w4 HO4.out)
        all_goals go_wp2
        all_goals go_roundw
        all_goals first
          | exact ⟨k + 1, by omega, by go_num, t1⟩
          | (simp [intOf]; omega)
      · obtain ⟨wa, hwa⟩ : ∃ wa, wa = wr := ⟨_, rfl⟩
        subst hwa
        go_wp2_with fail
        go_loopw [33] (fun i wr => ∃ k : Nat, k ≤ d.cache.length ∧ i = .int .i64 k ∧ Hid (Own2 w wr d uo vo uc vc)) (fun i _ => d.cache.length - (intOf i).toNat)
        case atStart => exact ⟨0, Nat.zero_le _, rfl, HO⟩
        case round =>
          obtain ⟨j, hj, rfl, HP⟩ := hrel
          obtain ⟨q0, q1, q2, q3, qf⟩ := HP.out.box.cells
          by_cases hlt2 : j < d.cache.length
          · obtain ⟨g1, cap1, e⟩ : ∃ g1 cap1, Value.slice vo d.cache.length vc = .slice (some ⟨g1, 0, none⟩) d.cache.length cap1 := by
              have ho := HP.out.puts
              obtain ⟨n', hn'⟩ : ∃ n', d.cache.length = n' + 1 := ⟨d.cache.length - 1, by omega⟩
              rw [hn'] at ho ⊢
              exact ownsRow_succ ho
            injection e with e1 e2 e3
            subst e1; subst e3
            have HG : Hid (∀ W, Own2 w W d uo (some ⟨g1, 0, none⟩) uc vc → Own2 w (W.setCell ⟨g1, j * 2 + 1, none⟩ (strV d.cache[j].2)) d uo (some ⟨g1, 0, none⟩) uc vc ∧ W.cell? ⟨g1, j * 2 + 1, none⟩ = some (strV d.cache[j].2) ∧ W.frozen? ⟨g1, j * 2 + 1, none⟩ = false) := fun W hW => ⟨hW.again2 hlt2, by
              have hd := (putCs_at d.cache j hlt2).2
              rw [Nat.mul_comm] at hd
              exact (hW.puts.cellAt (j * 2 + 1) (by omega)).trans hd, hW.puts.frozenAt (j * 2 + 1)⟩
            have hzl := (HK.out.puts d.cache[j] (List.getElem_mem hlt2)).2
            have cl := fun w => clone_any ⟨d.cache[j].2.toArray⟩ w (by rw [size_list]; omega)
            have c0 := (HG.out _ HP.out).2.1
            unfold strV at c0 HG
            have hji : (j : Int) < (d.cache.length : Int) := by omega
            generalize (⟨d.cache[j].2.toArray⟩ : ByteArray) = Z at c0 HG cl
            clear hzl
            go_wp2_with fail
            go_region_with (
              go_at_call 56
              refine (cl _).mono ?_
              rintro e w4 ⟨rfl, hb4⟩
              have hb5 : Below wr.heap.size wr w4 := below2 (by (repeat' (first | exact Below.refl _ _ | refine Below.drew ?_))) hb4
              have HO4 : Hid (Own2 w w4 d uo (some ⟨g1, 0, none⟩) uc vc) := HP.out.stay hb5
              obtain ⟨q0, q1, q2, q3, qf⟩ := HO4.out.box.cells
              obtain ⟨t1, t2, t3⟩ := HG.out w4 HO4.out)
            all_goals go_wp2
            all_goals go_roundw
            all_goals first
              | exact ⟨j + 1, by omega, by go_num, t1⟩
              | (simp [intOf]; omega)
          · have HF : Hid (∀ x y z u, HasDk ((((wr.setCell ⟨w.heap.size + 1, 0, none⟩ x).setCell ⟨w.heap.size + 1, 1, none⟩ y).setCell ⟨w.heap.size + 1, 2, none⟩ z).setCell ⟨w.heap.size + 1, 3, none⟩ u) (.agg #[.slice uo d.secs.length uc, .slice vo d.cache.length vc, .int .i64 d.fuse, .bool d.off]) d ∧ Below w.heap.size w ((((wr.setCell ⟨w.heap.size + 1, 0, none⟩ x).setCell ⟨w.heap.size + 1, 1, none⟩ y).setCell ⟨w.heap.size + 1, 2, none⟩ z).setCell ⟨w.heap.size + 1, 3, none⟩ u)) := fun x y z u => ⟨HP.out.has x y z u, set4_below HP.out.below (by omega) _ _ _ _⟩
            obtain ⟨r0, r1, r2, r3, rf⟩ := HP.out.res.cells
            go_wp2
            (try simp only [Exit.inBlock, Exit.then])
            refine bodyPost_ret (v := .agg #[.slice uo d.secs.length uc, .slice vo d.cache.length vc, .int .i64 d.fuse, .bool d.off]) ?_ rfl ⟨_, rfl, (HF.out _ _ _ _).1, (HF.out _ _ _ _).2⟩
            rw [results_one rfl]
            go_simp
end Go.Proofs.Ytbikcpchlgmoaaa.Disk
