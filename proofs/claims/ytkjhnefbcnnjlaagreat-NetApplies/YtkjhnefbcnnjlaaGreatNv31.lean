/- What the document's Right, Cmp, turned, Next and Prev return. -/
import Derived.Test.YtkjhnefbcnnjlaaGreatNv30
import Derived.Test.YtkjhnefbcnnjlaaGreatNv17
import Derived.Test.YtkjhnefbcnnjlaaGreatNv01
import Derived.Test.YtkjhnefbcnnjlaaGreatNv08
import Derived.OwnWalk
set_option linter.unusedVariables false
namespace Go.Proofs.YtkjhnefbcnnjlaaGreat.Nt
open Go.RowKit
open Go.Proofs.YtkjhnefbcnnjlaaGreat.Lk (HasLks HasRow HasLks.keep)
open Go.Proofs.YtkjhnefbcnnjlaaGreat.Tr (HasRts HasRts.keep)
open Go.Proofs.YtkjhnefbcnnjlaaGreat.Fib
open Go.Proofs.YtkjhnefbcnnjlaaGreat.Ord (St HasSts HasSts.keep stCs)
open Go.Proofs.YtkjhnefbcnnjlaaGreat.Addr (RowAt below2 below_new bset RowAt.lt RowAt.cell RowAt.below RowAt.drew RowAt.new RowAt.alloc RowAt.gkeep RowAt.set1 RowAt.far1 cells2 cells4 gset grefl results_cell)
attribute [-go_sem] Builtin.append_
theorem sts_by {W W' : World} {v : Value} {S : List St} {r : Option Nat} (h : HasSts W v S) (ho : ∀ g, r = some g → 0 < S.length → v.ownBlock ≠ some g) (hg : W.grownBy W' r) : HasSts W' v S := by
  have h' : HasRow W v 4 S.length (stCs S) := h
  cases r with
  | none =>
    have hg2 : W.grownBy W' (some W.heap.size) := ⟨hg.os, hg.tape, hg.output, hg.size, fun i hi _ => hg.block i hi (by simp)⟩
    exact row_apart h' hg2 (fun b i m c e hp hb => row_old h' hp (by rw [e, hb]; rfl))
  | some g => exact row_apart h' hg (fun b i m c e hp hb => ho g rfl hp (by rw [e, hb]; rfl))
/-- the loop of Copy, between two rounds -/
structure CpI (w wr : World) (gx gz : Nat) (s u : Value) (S : List St) (L : List Ro) : Prop where
  bel : Below w.heap.size w wr
  rx : RowAt wr gx [s, u] 25
  rz : RowAt wr gz [.slice none 0 0, .slice none 0 0] 25
  sts : HasSts wr s S
  grow : GrowM w.heap.size wr u L
  new : NewV (gx + 1) u
theorem GrowM.slice {B : Nat} {W : World} {u : Value} {L : List Ro} (h : GrowM B W u L) : ∃ o c, u = .slice o L.length c := by
  obtain ⟨o, c, e, _⟩ := HasRos.slice h.has
  exact ⟨o, c, e⟩
/-- a round: append, then the store -/
theorem CpI.step {w V w5 : World} {gx gz : Nat} {o4 o6 : Option Addr} {n4 c4 n6 c6 : Nat} {S : List St} {L : List Ro} (h : CpI w V gx gz (.slice o4 n4 c4) (.slice o6 n6 c6) S L) (hs : 0 < S.length → ∀ b, (Value.slice o4 n4 c4).ownBlock = some b → b < gx) (hz : w.heap.size ≤ gz ∧ gz < gx) (R : Ro) (x y : Value) (hb : Below V.heap.size V w5) (hr : RowsOf w5 ⟨R, x, y⟩) (hx : NewV V.heap.size x) (hy : NewV V.heap.size y) (hl : L.length * 64 + 64 ≤ 140737488355328) :
    ∃ o' c' W', (∀ ty, (Builtin.append_ #[23, 23] ty #[.slice o6 n6 c6, .slice (some ⟨w5.heap.size, 0, none⟩) 1 1]).run Tryz.prog (w5.alloc (.cells #[.int .i64 R.id, .bool R.up, x, y] 51)) = .ok (.slice o' (L.length + 1) c') W') ∧
      RowAt W' gx [.slice o4 n4 c4, .slice o6 n6 c6] 25 ∧ CpI w (W'.setCell ⟨gx, 1, none⟩ (.slice o' (L.length + 1) c')) gx gz (.slice o4 n4 c4) (.slice o' (L.length + 1) c') S (L ++ [R]) := by
  obtain ⟨V2, hV2⟩ : ∃ V2, V2 = w5.alloc (.cells #[.int .i64 R.id, .bool R.up, x, y] 51) := ⟨_, rfl⟩
  have hb2 : Below w5.heap.size w5 V2 := by rw [hV2]; exact below_new (Below.refl _ _) _
  have rV : RowAt V2 w5.heap.size [.int .i64 R.id, .bool R.up, x, y] 51 := by rw [hV2]; exact RowAt.new _ _ _
  have hbV : Below V.heap.size V V2 := below2 hb hb2
  have hG := h.grow.below hbV
  have hgu : ∀ g, (Value.slice o6 n6 c6).ownBlock = some g → g < V.heap.size := by
    obtain ⟨M, _, h1, _⟩ := h.grow.ex
    exact fun g e => (h1.lt g e).2
  have hBs : w.heap.size ≤ V2.heap.size := Nat.le_trans h.bel.size hbV.size
  obtain ⟨u', W', hrun, k1, k2, k3⟩ := hG.add R x y ⟨w5.heap.size, 0, none⟩ 1 (fun j v hj => by
      have hj4 : j < 4 := by have := (List.getElem?_eq_some_iff.1 hj).1; simpa [roC] using this
      rw [Lk.addr_add, Nat.zero_add]
      exact (rV.cell j).trans hj) (hr.keep hb2) (fun g e => ⟨fun _ q => by have := hgu g e; have := hx g q; omega, fun _ q => by have := hgu g e; have := hy g q; omega⟩) hl hBs
  obtain ⟨o', c', e'⟩ := k1.slice
  rw [List.length_append, List.length_singleton] at e'
  subst e'
  have hgx : gx < V2.heap.size := Nat.lt_of_lt_of_le h.rx.lt hbV.size
  have rx : RowAt W' gx [.slice o4 n4 c4, .slice o6 n6 c6] 25 := (h.rx.below hbV).gkeep k2 (fun e => by have := h.new gx e.symm; omega)
  have rz : RowAt W' gz [.slice none 0 0, .slice none 0 0] 25 := (h.rz.below hbV).gkeep k2 (fun e => by have := h.new gz e.symm; omega)
  have hnew : NewV (gx + 1) (.slice o' (L.length + 1) c') := fun b e => by
    rcases k3 with k3 | k3
    · exact h.new b (k3 ▸ e)
    · rw [k3] at e; have := Option.some.inj e; omega
  have hbel : Below w.heap.size w W' := (below2 h.bel hbV).grown k2 hBs (fun k e => by have := h.new k e; omega)
  have hst : HasSts W' (.slice o4 n4 c4) S := sts_by (h.sts.keep hbV) (fun g e hp q => by have := hs hp g q; have := h.new g e; omega) k2
  have hg : W'.grownBy (W'.setCell ⟨gx, 1, none⟩ (.slice o' (L.length + 1) c')) (some gx) := gset (grefl _ _)
  refine ⟨o', c', W', fun ty => by rw [← hV2]; exact hrun ty, rx, bset hbel (by omega), rx.set1 1 _, rz.far1 (by omega) _ _, sts_off hst rx hg, ?_, hnew⟩
  exact k1.far hg (.inr fun e => by have := hnew gx e; omega) (fun m hm => rowsOf_off hm rx hg)
set_option maxHeartbeats 4000000 in
set_option maxRecDepth 20000 in
theorem rcopy_walk (S : List St) (L : List Ro) (so lo : Option Addr) (sn ln sc lc : Nat) (w : World) (hs : HasSts w (.slice so sn sc) S) (hl : HasRos w (.slice lo ln lc) L) (es : Hid (sn = S.length)) (el : Hid (ln = L.length)) (h1 : S.length * 32 ≤ 140737488355328) (h2 : L.length * 64 ≤ 140737488355328) (h3 : ∀ R ∈ L, R.rts.length * 48 ≤ 140737488355328 ∧ R.lks.length * 16 ≤ 140737488355328) :
    Calls Tryz.prog 4 #[.agg #[.slice so sn sc, .slice lo ln lc]] w fun e w' => ∃ o1 n1 m1 o2 n2 m2, e = .returned (.agg #[.slice o1 n1 m1, .slice o2 n2 m2]) ∧ HasSts w' (.slice o1 n1 m1) S ∧ HasRos w' (.slice o2 n2 m2) L ∧ Below w.heap.size w w' := by
  have H3 : Hid (∀ R ∈ L, R.rts.length * 48 ≤ 140737488355328 ∧ R.lks.length * 16 ≤ 140737488355328) := h3
  clear h3
  have C1 : Hid (∀ W, HasSts W (.slice so sn sc) S → ∃ o c w3, (∀ ty, (Builtin.append_ #[22, 22] ty #[.slice (some ⟨W.heap.size, 0, none⟩) 0 0, .slice so sn sc]).run Tryz.prog (W.alloc (.cells #[] 70)) = .ok (.slice o sn c) w3) ∧ HasSts w3 (.slice o sn c) S ∧ Below W.heap.size W w3) := fun W h => by
    have h' : HasRow W (.slice so sn sc) 4 S.length (stCs S) := h
    obtain ⟨o, c, w3, k1, k2, k3, k4⟩ := Fib.copy_rown Ord.info_seat Tryz.underlying22 rfl (by decide) h' (Ord.one_seats _) (by omega) (by omega)
    rw [← es.out] at k1 k2
    exact ⟨o, c, w3, k1, by rw [es.out] at k2 ⊢; exact k2, k4⟩
  obtain ⟨X, hX⟩ : ∃ X, X = (w.alloc (.cells #[.slice so sn sc, .slice lo ln lc] 25)).alloc (.cells #[.slice none 0 0, .slice none 0 0] 25) := ⟨_, rfl⟩
  have hB : Below w.heap.size w X := by rw [hX]; exact below_new (below_new (Below.refl _ _) _) _
  have r0 : RowAt X w.heap.size [.slice so sn sc, .slice lo ln lc] 25 := by rw [hX]; exact (RowAt.new _ _ _).alloc _
  have r1 : RowAt X (w.heap.size + 1) [.slice none 0 0, .slice none 0 0] 25 := by rw [hX, ← World.size_alloc w (.cells #[.slice so sn sc, .slice lo ln lc] 25)]; exact RowAt.new _ _ _
  obtain ⟨o4, c4, w3, hrun, hh4, hb3⟩ := C1.out X (hs.keep hB)
  have R0 := RowAt.below r0 hb3
  have R1 := RowAt.below r1 hb3
  have HL : Hid (HasRos w (.slice lo ln lc) L) := hl
  have hni : (ln : Int) ≤ 9223372036854775807 := by have := el.out; omega
  have H2 : Hid (L.length * 64 ≤ 140737488355328) := h2
  obtain ⟨Y, hY⟩ : ∃ Y, Y = w3.alloc (.cells #[.slice o4 sn c4, .slice none 0 0] 25) := ⟨_, rfl⟩
  have hbY : Below w3.heap.size w3 Y := by rw [hY]; exact below_new (Below.refl _ _) _
  have rx : RowAt Y w3.heap.size [.slice o4 sn c4, .slice none 0 0] 25 := by rw [hY]; exact RowAt.new _ _ _
  have y0 := RowAt.below R0 hbY
  have hI : Hid (CpI w Y w3.heap.size (w.heap.size + 1) (.slice o4 sn c4) (.slice none 0 0) S (L.take 0)) := ⟨below2 (below2 hB hb3) hbY, rx, RowAt.below R1 hbY, hh4.keep hbY, GrowM.nil _ _, fun b e => by simp [Value.ownBlock] at e⟩
  have hS : Hid (0 < S.length → ∀ b, (Value.slice o4 sn c4).ownBlock = some b → b < w3.heap.size) := fun hp b e => by
    have h' : HasRow w3 (.slice o4 sn c4) 4 S.length (stCs S) := hh4
    rcases h'.2 with ⟨q1, q2⟩ | ⟨a, cap, q1, q2, q3, q4, q5⟩
    · omega
    · injection q1 with q1
      subst q1
      have := (q4 hp).2
      simp only [Value.ownBlock, Option.some.injEq] at e
      omega
  have hzx : w.heap.size ≤ w.heap.size + 1 ∧ w.heap.size + 1 < w3.heap.size := ⟨by omega, R1.lt⟩
  have P0 : (X.alloc (.cells #[] 70)).cell? ⟨w.heap.size, 0, none⟩ = some (.slice so sn sc) := (RowAt.below r0 (below_new (Below.refl _ X) _)).cell 0
  obtain ⟨p0, p1, pf⟩ := cells2 r0
  obtain ⟨q0, q1, qf⟩ := cells2 R0
  clear hs hl h1 h2 C1 hh4
  go_enter Tryz.func4, Tryz.ntmps4
  go_upto_region 1 with fail
  rw [← hX]
  clear hX
  go_upto_region 2 with fail
  rw [← hY]
  clear hY P0 p0 p1 pf q0 q1 qf hrun
  obtain ⟨p0, p1, pf⟩ := cells2 y0
  have hxl : w3.heap.size < Y.heap.size := rx.lt
  clear rx R0 R1 r0 r1 hb3 hbY hB
  obtain ⟨gz, hgz⟩ : ∃ gz, gz = w.heap.size + 1 := ⟨_, rfl⟩
  rw [← hgz] at hI hzx ⊢
  clear hgz
  generalize w3.heap.size = gx at *
  go_wp2_with fail
  clear p0 p1 pf y0
  go_loopw [14] (fun i wr => ∃ k : Nat, k ≤ ln ∧ i = .int .i64 k ∧ ∃ o6 c6, Hid (CpI w wr gx gz (.slice o4 sn c4) (.slice o6 k c6) S (L.take k))) (fun i wr => (ln - Go.RowKit.intOf i).toNat)
  case atStart => exact ⟨0, by omega, rfl, none, 0, hI⟩
  case round =>
    obtain ⟨k, hk, rfl, o6, c6, HI⟩ := hrel
    clear hI
    by_cases hlt : k < ln
    · have hkz : k < L.length := by rw [← el.out]; exact hlt
      obtain ⟨b1, i1, o1, c1, o2, c2, e1, hb1, a0, a1, a2, a3, ar, ak⟩ := HasRos.cell (HL.out.keep HI.out.bel) k hkz
      subst e1
      have h3k := H3.out L[k] (List.getElem_mem hkz)
      have etk : Hid (L.take (k + 1) = L.take k ++ [L[k]]) := by show _ = _; rw [List.take_succ_eq_append_getElem hkz]
      have elk : Hid ((L.take k).length = k) := by show _ = _; rw [List.length_take]; omega
      have HST : Hid (∀ (V w5 : World) (x y : Value), CpI w V gx gz (.slice o4 sn c4) (.slice o6 k c6) S (L.take k) → Below V.heap.size V w5 → RowsOf w5 ⟨L[k], x, y⟩ → NewV V.heap.size x → NewV V.heap.size y → ∃ o' c' W', (∀ ty, (Builtin.append_ #[23, 23] ty #[.slice o6 k c6, .slice (some ⟨w5.heap.size, 0, none⟩) 1 1]).run Tryz.prog (w5.alloc (.cells #[.int .i64 L[k].id, .bool L[k].up, x, y] 51)) = .ok (.slice o' (k + 1) c') W') ∧ RowAt W' gx [.slice o4 sn c4, .slice o6 k c6] 25 ∧ Hid (CpI w (W'.setCell ⟨gx, 1, none⟩ (.slice o' (k + 1) c')) gx gz (.slice o4 sn c4) (.slice o' (k + 1) c') S (L.take (k + 1)))) := fun V w5 x y q1 q2 q3 q4 q5 => by
        have := q1.step hS.out hzx L[k] x y q2 q3 q4 q5 (by have := el.out; have := elk.out; have := H2.out; omega)
        rw [elk.out, ← etk.out] at this
        exact this
      have cf : ∀ W, HasRts W (.slice o1 L[k].rts.length c1) L[k].rts → HasLks W (.slice o2 L[k].lks.length c2) L[k].lks → Calls Tryz.prog 13 #[.agg #[.int .i64 L[k].id, .bool L[k].up, .slice o1 L[k].rts.length c1, .slice o2 L[k].lks.length c2]] W fun e w' => ∃ p1 q1 s1 p2 q2 s2, e = .returned (.agg #[.int .i64 L[k].id, .bool L[k].up, .slice p1 q1 s1, .slice p2 q2 s2]) ∧ Hid (RowsOf w' ⟨L[k], .slice p1 q1 s1, .slice p2 q2 s2⟩ ∧ NewV W.heap.size (.slice p1 q1 s1) ∧ NewV W.heap.size (.slice p2 q2 s2)) ∧ Below W.heap.size W w' := fun W h1 h2 => by
        refine (Fib.copy_new L[k] _ _ W h1 h2 h3k.1 h3k.2).mono ?_
        rintro e w' ⟨p1, q1, s1, p2, q2, s2, rfl, z1, z2, z3, z4, z5⟩
        exact ⟨_, _, _, _, _, _, rfl, ⟨⟨z1, z2⟩, z3, z4⟩, z5⟩
      clear etk elk
      generalize L[k] = R at *
      obtain ⟨id, up, rts, lks⟩ := R
      simp only at *
      generalize hn1 : rts.length = q1 at *
      generalize hn2 : lks.length = q2 at *
      clear hn1 hn2 h3k
      have hki : (k : Int) < (ln : Int) := by omega
      obtain ⟨V, hV⟩ : ∃ V, V = wr.alloc (.cells #[.int .i64 id, .bool up, .slice o1 q1 c1, .slice o2 q2 c2] 51) := ⟨_, rfl⟩
      have hbV : Below wr.heap.size wr V := by rw [hV]; exact below_new (Below.refl _ _) _
      have rV : RowAt V wr.heap.size [.int .i64 id, .bool up, .slice o1 q1 c1, .slice o2 q2 c2] 51 := by rw [hV]; exact RowAt.new _ _ _
      have HV : Hid (CpI w V gx gz (.slice o4 sn c4) (.slice o6 k c6) S (L.take k)) := ⟨below2 HI.out.bel hbV, HI.out.rx.below hbV, HI.out.rz.below hbV, HI.out.sts.keep hbV, HI.out.grow.below hbV, HI.out.new⟩
      clear HI
      go_upto_region 5 with fail
      rw [← hV]
      have HCF : Hid (HasRts V (.slice o1 q1 c1) rts ∧ HasLks V (.slice o2 q2 c2) lks) := ⟨ar.keep hbV, ak.keep hbV⟩
      clear hV hbV a0 a1 a2 a3 hb1 ar ak
      generalize wr.heap.size = gr at rV ⊢
      obtain ⟨s0, s1, sf⟩ := cells2 HV.out.rx
      obtain ⟨t0, t1, t2, t3, tf⟩ := cells4 rV
      go_region_with (first
        | (go_at_call 13
           refine (cf _ (HCF.out.1.keep (Below.refl _ _).drew) (HCF.out.2.keep (Below.refl _ _).drew)).mono ?_
           rintro e w5 ⟨x1, x2, x3, x4, x5, x6, rfl, HX, hb5'⟩
           have hb5 : Below V.heap.size V w5 := below2 (Below.refl _ _).drew hb5'
           obtain ⟨o7, c7, w6, hrun, rx6, HF⟩ := HST.out V w5 _ _ HV.out hb5 HX.out.1 HX.out.2.1 HX.out.2.2
           have rx5 := RowAt.below HV.out.rx hb5
           obtain ⟨v0, v1, vf⟩ := cells2 rx5
           have P5 : (w5.alloc (.cells #[.int .i64 id, .bool up, .slice x1 x2 x3, .slice x4 x5 x6] 51)).cell? ⟨gx, 1, none⟩ = some (.slice o6 k c6) := (RowAt.below rx5 (below_new (Below.refl _ w5) _)).cell 1
           obtain ⟨u0, u1, uf⟩ := cells2 rx6))
      all_goals
        obtain ⟨Z, hZ⟩ : ∃ Z, Z = w6.setCell ⟨gx, 1, none⟩ (.slice o7 (k + 1) c7) := ⟨_, rfl⟩
        rw [← hZ] at HF ⊢
        clear hZ HX HCF HV HST cf hrun rx6 rx5 P5 s0 s1 sf v0 v1 vf u0 u1 uf
        go_wp2_with fail
        go_roundw
        case rel => exact ⟨k + 1, by omega, by go_num, o7, c7, HF⟩
        case measure => simp [Go.RowKit.intOf]; omega
    · have hkn2 : k = ln := by omega
      subst hkn2
      have hkd : decide ((k : Int) < (k : Int)) = false := decide_eq_false (by omega)
      obtain ⟨s0, s1, sf⟩ := cells2 HI.out.rx
      obtain ⟨q0, q1, qf⟩ := cells2 HI.out.rz
      have etk : L.take k = L := by rw [el.out]; exact List.take_length
      rw [etk] at HI
      go_wp2_with fail
      (try simp only [Exit.inBlock, Exit.then])
      refine bodyPost_ret (v := .agg #[.slice o4 sn c4, .slice o6 k c6]) ?_ rfl ⟨_, _, _, _, _, _, rfl, ?_, ?_, ?_⟩
      · rw [results_cell rfl]
        go_simp
      · exact sts_off HI.out.sts HI.out.rz (gset (gset (grefl _ _)))
      · exact ros_off HI.out.grow.has HI.out.rz (gset (gset (grefl _ _)))
      · exact bset (bset HI.out.bel hzx.1) hzx.1
theorem rcopy_any (S : List St) (L : List Ro) (u v : Value) (w : World) (hs : HasSts w u S) (hl : HasRos w v L) (h1 : S.length * 32 ≤ 140737488355328) (h2 : L.length * 64 ≤ 140737488355328) (h3 : ∀ R ∈ L, R.rts.length * 48 ≤ 140737488355328 ∧ R.lks.length * 16 ≤ 140737488355328) :
    Calls Tryz.prog 4 #[.agg #[u, v]] w fun e w' => ∃ o1 n1 m1 o2 n2 m2, e = .returned (.agg #[.slice o1 n1 m1, .slice o2 n2 m2]) ∧ HasSts w' (.slice o1 n1 m1) S ∧ HasRos w' (.slice o2 n2 m2) L ∧ Below w.heap.size w w' := by
  obtain ⟨so, sc, rfl, _⟩ := Ord.HasRow.slice hs
  obtain ⟨lo, lc, rfl, _⟩ := HasRos.slice hl
  exact rcopy_walk S L so lo _ _ sc lc w hs hl rfl rfl h1 h2 h3
end Go.Proofs.YtkjhnefbcnnjlaaGreat.Nt
namespace Go.Proofs.YtkjhnefbcnnjlaaGreat.Ord
open Go.RowKit
open Go.Proofs.YtkjhnefbcnnjlaaGreat.Addr (RowAt below2 below_drew below_new RowAt.cell RowAt.new RowAt.alloc cells4)

theorem bad_some {s : St} (h : okS s = false) : s.router < 0 ∨ 1048576 < s.router ∨ (s.seq : Int) < 1 ∨ 1099511627776 < (s.seq : Int) ∨ s.time < 0 ∨ 1099511627776 < s.time := by
  unfold okS at h
  simp only [Bool.and_eq_false_iff, decide_eq_false_iff_not] at h
  omega
theorem good_all {s : St} (h : okS s = true) : ¬ s.router < 0 ∧ ¬ 1048576 < s.router ∧ ¬ (s.seq : Int) < 1 ∧ ¬ 1099511627776 < (s.seq : Int) ∧ ¬ s.time < 0 ∧ ¬ 1099511627776 < s.time := by
  unfold okS at h
  simp only [Bool.and_eq_true, decide_eq_true_eq] at h
  omega
set_option maxHeartbeats 8000000 in
set_option maxRecDepth 20000 in
theorem rcheck_any (l : List St) (v : Value) (w : World) (h : HasSts w v l) :
    Calls Tryz.prog 25 #[v] w fun e w' => e = .returned (.int .i64 (checkL l)) ∧ Below w.heap.size w w' := by
  obtain ⟨o, c, rfl, hc1, hc2⟩ := HasRow.slice h
  have HR : Hid (∀ wr : World, Below w.heap.size w wr → HasSts wr (.slice o l.length c) l) := fun wr hb => h.keep hb
  obtain ⟨n, hn⟩ : ∃ n, n = l.length := ⟨_, rfl⟩
  have HN : Hid (n = l.length) := hn
  rw [← hn] at HR hc1 ⊢
  have HC : Hid (checkL l = if (decide (n ≤ 64) && rise none l) then 0 else 2) := by show _ = _; unfold checkL okL; rw [← hn]
  generalize checkL l = R at HC ⊢
  clear h hn
  by_cases h64 : 64 < n
  · have HV : Hid (R = 2) := by show _ = _; rw [HC.out, decide_eq_false (by omega)]; rfl
    have q1 : decide ((64 : Int) < (n : Int)) = true := decide_eq_true (by omega)
    have q2 : decide (64 < n) = true := decide_eq_true h64
    clear HC HR
    go_enter Tryz.func25, Tryz.ntmps25
    go_wp2_with fail
    go_ret
    exact ⟨by rw [HV.out]; rfl, Below.refl _ _⟩
  · have HD : Hid (R = if rise none l then 0 else 2) := by show _ = _; rw [HC.out, decide_eq_true (by omega)]; rfl
    have hni : (n : Int) ≤ 64 := by omega
    have q1 : decide ((64 : Int) < (n : Int)) = false := decide_eq_false (by omega)
    have q2 : decide (64 < n) = false := decide_eq_false h64
    clear HC h64
    go_enter Tryz.func25, Tryz.ntmps25
    go_wp2_with fail
    go_loopw [10] (fun i wr => ∃ k : Nat, k ≤ n ∧ i = .int .i64 k ∧ Below w.heap.size w wr ∧ Hid (rise none l = rise (prevR l k) (l.drop k))) (fun i _ => n - (intOf i).toNat)
    case atStart => exact ⟨0, by omega, rfl, Below.refl _ _, (rfl : rise none l = _)⟩
    case round =>
      obtain ⟨k, hk, rfl, hB, HG⟩ := hrel
      have hh := HR.out _ hB
      by_cases hlt : k < n
      · have hkz : k < l.length := by rw [← HN.out]; exact hlt
        obtain ⟨g1, i1, rfl, hg1, a0, a1, a2, a3⟩ := HasSts.cell hh k hkz
        have hki : (k : Int) < (n : Int) := by omega
        have HB1 : Hid (okS l[k] = false → R = 2) := fun h => round_bad hkz HD.out HG.out h
        have HB2 : Hid (okS l[k] = true → k = 0 → rise none l = rise (prevR l 1) (l.drop 1)) := fun h h0 => round_first hkz HG.out h h0
        have HB3 : Hid (okS l[k] = true → ∀ (j : Nat) (hj : j < l.length), k = j + 1 → (decide (l[k].router ≤ l[j].router) = false → rise none l = rise (prevR l (k + 1)) (l.drop (k + 1))) ∧ (decide (l[k].router ≤ l[j].router) = true → R = 2)) := fun h j hj h0 => round_next hkz HD.out HG.out h h0 hj
        have HOK : Hid (okS l[k] = true → ¬ l[k].router < 0 ∧ ¬ 1048576 < l[k].router ∧ ¬ (l[k].seq : Int) < 1 ∧ ¬ 1099511627776 < (l[k].seq : Int) ∧ ¬ l[k].time < 0 ∧ ¬ 1099511627776 < l[k].time) := fun h => good_all h
        have HBD : Hid (okS l[k] = false → l[k].router < 0 ∨ 1048576 < l[k].router ∨ (l[k].seq : Int) < 1 ∨ 1099511627776 < (l[k].seq : Int) ∨ l[k].time < 0 ∨ 1099511627776 < l[k].time) := fun h => bad_some h
        generalize okS l[k] = B1 at HB1 HB2 HB3 HOK HBD
        generalize l[k].router = ra at a0 HB3 HOK HBD
        generalize (l[k].seq : Int) = rb at a1 HOK HBD
        generalize l[k].time = rc at a2 HOK HBD
        generalize l[k].up = ru at a3
        clear HG
        go_upto_region 6 with fail
        obtain ⟨X, hX⟩ : ∃ X, X = wr.alloc (.cells #[.int .i64 ra, .int .u64 rb, .int .i64 rc, .bool ru] 70) := ⟨_, rfl⟩
        have hbX : Below wr.heap.size wr X := by rw [hX]; exact below_new (Below.refl _ _) _
        have rx : RowAt X wr.heap.size [.int .i64 ra, .int .u64 rb, .int .i64 rc, .bool ru] 70 := by rw [hX]; exact RowAt.new _ _ _
        rw [← hX]
        have hBX := below2 hB hbX
        have hhX := hh.keep hbX
        clear hX
        obtain ⟨gs, hgs⟩ : ∃ g, g = wr.heap.size := ⟨_, rfl⟩
        rw [← hgs] at rx ⊢
        clear hgs a0 a1 a2 a3 hg1
        obtain ⟨x0, x1, x2, x3, xf⟩ := cells4 rx
        cases B1
        · have HV : Hid (R = 2) := HB1.out rfl
          have hbd := HBD.out rfl
          clear HB1 HB2 HB3 HD hh hhX HOK HBD rx
          have hd : ∀ P : Prop, [Decidable P] → P ∨ ¬ P := fun P _ => Decidable.em P
          by_cases d0 : ra < 0
          · replace d0 := decide_eq_true d0
            go_wp2_with fail
            go_ret
            exact ⟨by rw [HV.out]; rfl, hBX⟩
          by_cases d1 : 1048576 < ra
          · replace d0 := decide_eq_false d0
            replace d1 := decide_eq_true d1
            go_wp2_with fail
            go_ret
            exact ⟨by rw [HV.out]; rfl, hBX⟩
          by_cases d2 : rb < 1
          · replace d0 := decide_eq_false d0
            replace d1 := decide_eq_false d1
            replace d2 := decide_eq_true d2
            go_wp2_with fail
            go_ret
            exact ⟨by rw [HV.out]; rfl, hBX⟩
          by_cases d3 : 1099511627776 < rb
          · replace d0 := decide_eq_false d0
            replace d1 := decide_eq_false d1
            replace d2 := decide_eq_false d2
            replace d3 := decide_eq_true d3
            go_wp2_with fail
            go_ret
            exact ⟨by rw [HV.out]; rfl, hBX⟩
          by_cases d4 : rc < 0
          · replace d0 := decide_eq_false d0
            replace d1 := decide_eq_false d1
            replace d2 := decide_eq_false d2
            replace d3 := decide_eq_false d3
            replace d4 := decide_eq_true d4
            go_wp2_with fail
            go_ret
            exact ⟨by rw [HV.out]; rfl, hBX⟩
          have d5 : decide (1099511627776 < rc) = true := decide_eq_true (by omega)
          replace d0 := decide_eq_false d0
          replace d1 := decide_eq_false d1
          replace d2 := decide_eq_false d2
          replace d3 := decide_eq_false d3
          replace d4 := decide_eq_false d4
          clear hbd
          go_wp2_with fail
          go_ret
          exact ⟨by rw [HV.out]; rfl, hBX⟩
        · obtain ⟨d0, d1, d2, d3, d4, d5⟩ := HOK.out rfl
          replace d0 := decide_eq_false d0
          replace d1 := decide_eq_false d1
          replace d2 := decide_eq_false d2
          replace d3 := decide_eq_false d3
          replace d4 := decide_eq_false d4
          replace d5 := decide_eq_false d5
          clear HB1 HOK HBD
          go_upto_region 8 with fail
          clear d0 d1 d2 d3 d4 d5
          by_cases hk0 : k = 0
          · have HS1 : Hid (rise none l = rise (prevR l 1) (l.drop 1)) := HB2.out rfl hk0
            have hz1 : decide ((0 : Int) < (k : Int)) = false := decide_eq_false (by omega)
            have hz2 : decide (0 < k) = false := decide_eq_false (by omega)
            have HK : Hid (k = 0) := hk0
            clear hk0 HB2 HB3 hh hhX
            go_wp2_with fail
            go_quiet (fail)
            go_wp2_with fail
            go_roundw
            case rel => exact ⟨k + 1, by omega, by go_num, by first | exact hBX | exact below_drew hBX | exact below_drewN hBX _, by rw [HK.out]; exact HS1⟩
            case measure => simp [intOf]; omega
          · obtain ⟨j, hj⟩ : ∃ j, k = j + 1 := ⟨k - 1, by omega⟩
            have hj2 : j < l.length := by omega
            obtain ⟨g2, i2, e12, hg2, b0, _, _, _⟩ := HasSts.cell hhX j hj2
            injection e12 with e12
            injection e12 with e1 e2
            subst e1 e2
            obtain ⟨HN1, HN2⟩ := HB3.out rfl j hj2 hj
            have HN1 : Hid (decide (ra ≤ l[j].router) = false → rise none l = rise (prevR l (k + 1)) (l.drop (k + 1))) := HN1
            have HN2 : Hid (decide (ra ≤ l[j].router) = true → R = 2) := HN2
            generalize l[j].router = pr at b0 HN1 HN2
            have e1 : (k : Int) - 1 = (j : Int) := by omega
            have e2 : IntKind.i64.wrap (j : Int) = (j : Int) := by rw [IntKind.wrap_i64]; omega
            have hkp : decide ((0 : Int) < (k : Int)) = true := decide_eq_true (by omega)
            have hkp' : decide (0 < k) = true := decide_eq_true (by omega)
            have hjn : (j : Int) < (n : Int) := by omega
            clear hj hk0 HB2 HB3 hh hhX
            cases B2 : decide (ra ≤ pr)
            · have HS1 : Hid (rise none l = rise (prevR l (k + 1)) (l.drop (k + 1))) := HN1.out B2
              clear HN1 HN2
              go_wp2_with fail
              go_quiet (fail)
              go_wp2_with fail
              go_roundw
              case rel => exact ⟨k + 1, by omega, by go_num, by first | exact hBX | exact below_drew hBX | exact below_drewN hBX _, HS1⟩
              case measure => simp [intOf]; omega
            · have HV : Hid (R = 2) := HN2.out B2
              clear HN1 HN2 HD
              go_wp2_with fail
              go_quiet (fail)
              go_wp2_with fail
              go_ret
              exact ⟨by rw [HV.out]; rfl, by first | exact hBX | exact below_drew hBX | exact below_drewN hBX _⟩
      · obtain rfl : k = n := by omega
        have HV : Hid (R = 0) := by
          show _ = _
          rw [HD.out, HG.out, List.drop_of_length_le (by rw [← HN.out]; exact Nat.le_refl _)]
          unfold prevR
          split <;> rfl
        clear hh HG HD
        go_wp2
        go_ret
        exact ⟨by rw [HV.out]; rfl, hB⟩
end Go.Proofs.YtkjhnefbcnnjlaaGreat.Ord
namespace Go.Proofs.YtkjhnefbcnnjlaaGreat.Addr

/-- a number's last W bits, the highest first -/
def bitL (W n : Nat) : List Nat := (List.range W).map fun i => (n.testBit (W - 1 - i)).toNat
theorem bitL_len (W n : Nat) : (bitL W n).length = W := by simp [bitL]
theorem bitL_get (W n i : Nat) (h : i < W) : (bitL W n)[i]'(by rw [bitL_len]; exact h) = (n.testBit (W - 1 - i)).toNat := by simp [bitL]
theorem mod_zero_bits (n k : Nat) : n % 2 ^ k = 0 ↔ ∀ j, j < k → n.testBit j = false := by
  constructor
  · intro h j hj
    have := Nat.testBit_mod_two_pow n k j
    rw [h, Nat.zero_testBit] at this
    simpa [hj] using this.symm
  · intro h
    apply Nat.eq_of_testBit_eq
    intro j
    rw [Nat.testBit_mod_two_pow, Nat.zero_testBit]
    by_cases hj : j < k
    · simp [h j hj]
    · simp [hj]
end Go.Proofs.YtkjhnefbcnnjlaaGreat.Addr
namespace Go.Proofs.YtkjhnefbcnnjlaaGreat.Addr
open Go.RowKit

theorem rwide_any (six : Bool) (w : World) : Calls Tryz.prog 123 #[.bool six] w fun e w' => e = .returned (.int .i64 (wideN six : Int)) ∧ w' = w := by
  cases six
  · go_enter Tryz.func123, Tryz.ntmps123
    go_wp2
    go_ret
    exact ⟨rfl, rfl⟩
  · go_enter Tryz.func123, Tryz.ntmps123
    go_wp2
    go_ret
    exact ⟨rfl, rfl⟩
theorem info_int : (Tryz.prog.info? 3).map (fun i => (i.zero, i.size, i.bytes)) = some (some (.int .i64 0), 1, 8) := by kernel_rfl
theorem info_parts' {t : TypeId} {z : Option Value} {s b : Nat} (h : (Tryz.prog.info? t).map (fun i => (i.zero, i.size, i.bytes)) = some (z, s, b)) : ∃ i, Tryz.prog.info? t = some i ∧ i.zero = z ∧ i.size = s ∧ i.bytes = b := by
  cases hi : Tryz.prog.info? t with
  | none => rw [hi] at h; simp at h
  | some i => rw [hi] at h; simp at h; exact ⟨i, rfl, h.1, h.2.1, h.2.2⟩
def celN (l : List Nat) : List Value := l.map fun (b : Nat) => Value.int .i64 (b : Int)
theorem celN_get (l : List Nat) (k : Nat) (h : k < l.length) : (celN l)[k]? = some (.int .i64 (l[k] : Int)) := by simp [celN, h]
theorem celN_set (l : List Nat) (k b : Nat) : (celN l).set k (.int .i64 (b : Int)) = celN (l.set k b) := by simp [celN, List.map_set]
/-- 'make([]int, n)' -/
theorem make_ints (w : World) (n : Nat) (h : n ≤ 1000000) (kl kc : IntKind) : (Instr.makeSlice 166 (.int kl (n : Int)) (.int kc (n : Int))).run Tryz.prog w = .ok (.slice (some ⟨w.heap.size, 0, none⟩) n n) (w.alloc (.cells (celN (List.replicate n 0)).toArray 3)) := by
  obtain ⟨i0, hi, hz0, hz1, hz2⟩ := info_parts' info_int
  have hr := run_make (P := Tryz.prog) w 166 3 i0 (.int .i64 0) Tryz.underlying166 hi hz0 kl kc n n (by omega) (Int.le_refl _) (by rw [hz2]; omega) (by omega)
  rw [hr, hz1, Int.toNat_natCast, Nat.mul_one]
  have e : madeCells (Value.int .i64 0).cells n = (celN (List.replicate n 0)).toArray := by
    apply Array.ext'
    refine (toList_madeCells_one (.int .i64 0) n).trans ?_
    simp [celN]
  rw [e]
/-- the row of bits, from the last one on, as far as t -/
def rowT (W n t : Nat) : List Nat := (List.range W).map fun j => if W - t ≤ j then (n.testBit (W - 1 - j)).toNat else 0
theorem rowT_len (W n t : Nat) : (rowT W n t).length = W := by simp [rowT]
theorem rowT_zero (W n : Nat) : rowT W n 0 = List.replicate W 0 := by
  apply List.ext_getElem
  · simp [rowT]
  · intro i h1 h2
    rw [rowT_len] at h1
    simp [rowT]; omega
theorem rowT_all (W n : Nat) : rowT W n W = bitL W n := by
  unfold rowT bitL
  apply List.map_congr_left
  intro j _
  rw [if_pos (by omega)]
theorem rowT_set (W n t : Nat) (h : t < W) : (rowT W n t).set (W - 1 - t) (n.testBit t).toNat = rowT W n (t + 1) := by
  apply List.ext_getElem
  · simp [rowT]
  · intro i h1 h2
    rw [rowT_len] at h2
    rw [List.getElem_set]
    by_cases hi : W - 1 - t = i
    · rw [if_pos hi]
      simp only [rowT, List.getElem_map, List.getElem_range]
      rw [if_pos (by omega), show W - 1 - i = t by omega]
    · rw [if_neg hi]
      simp only [rowT, List.getElem_map, List.getElem_range]
      by_cases h3 : W - t ≤ i
      · rw [if_pos h3, if_pos (by omega)]
      · rw [if_neg h3, if_neg (by omega)]
theorem half_num (m : Nat) (hm : m < 2 ^ 128) : loN m / 2 + hiN m % 2 * 9223372036854775808 = loN (m / 2) ∧ hiN m / 2 = hiN (m / 2) := by unfold loN hiN; omega
def BitsIs (L : List Nat) (w : World) (e : Ending) (w' : World) : Prop := ∃ g, e = .returned (.slice (some ⟨g, 0, none⟩) L.length L.length) ∧ w.heap.size ≤ g ∧ RowAt w' g (celN L) 3 ∧ Below w.heap.size w w'
set_option maxHeartbeats 2000000 in
set_option maxRecDepth 20000 in
theorem rbits_any (six : Bool) (n : Nat) (w : World) (hn : n < 2 ^ 128) : Calls Tryz.prog 125 #[.bool six, adV n] w (BitsIs (bitL (wideN six) n) w) := by
  have cw := fun w => rwide_any six w
  have hWl := wideN_le six
  have hWg := wideN_ge six
  obtain ⟨W, hWd⟩ : ∃ W, W = wideN six := ⟨_, rfl⟩
  rw [← hWd] at cw hWl hWg ⊢
  clear hWd
  have hmk := fun w => make_ints w W (by omega) .i64 .i64
  unfold adV
  obtain ⟨X, hX⟩ : ∃ X, X = w.alloc (.cells #[.int .u64 (hiN n : Int), .int .u64 (loN n : Int)] 31) := ⟨_, rfl⟩
  have hB0 : Below w.heap.size w X := by rw [hX]; exact below_new (Below.refl _ _) _
  have r0 : RowAt X w.heap.size [.int .u64 (hiN n : Int), .int .u64 (loN n : Int)] 31 := by rw [hX]; exact RowAt.new _ _ _
  obtain ⟨Y, hY⟩ : ∃ Y, Y = X.alloc (.cells (celN (List.replicate W 0)).toArray 3) := ⟨_, rfl⟩
  obtain ⟨g, hg⟩ : ∃ g, g = X.heap.size := ⟨_, rfl⟩
  have hmk := hmk X
  have r1 : RowAt Y g (celN (rowT W n 0)) 3 := by rw [hY, hg, rowT_zero]; exact RowAt.new _ _ _
  have hBY : Below w.heap.size w Y := by rw [hY]; exact below_new hB0 _
  have hwg : w.heap.size ≤ g := by rw [hg]; exact hB0.size
  have r0Y : RowAt Y w.heap.size [.int .u64 (hiN n : Int), .int .u64 (loN n : Int)] 31 := by rw [hY]; exact r0.alloc _
  have hWi : (W : Int) ≤ 128 := by omega
  have hWi2 : (32 : Int) ≤ (W : Int) := by omega
  go_enter Tryz.func125, Tryz.ntmps125
  go_wp2_with fail
  go_at_call 123; refine (cw _).mono ?_; rintro e w2 ⟨rfl, rfl⟩
  rw [← hX]
  clear hX hB0 r0
  go_upto_region 2 with fail
  rw [← hY, ← hg]
  clear hmk hY hg cw
  obtain ⟨q0, q1, qf⟩ := cells2 r0Y
  go_region
  go_wp2_with fail
  clear q0 q1 qf r0Y hmk
  have HN : Hid (n < 2 ^ 128) := hn
  have HP : Hid (BitsIs (bitL W n) w = BitsIs (bitL W n) w) := rfl
  go_loopw [6, 7, 8] (fun lo hi i wr => ∃ (t : Nat) (x : Int), t ≤ W ∧ lo = .int .u64 (loN (n / 2 ^ t) : Int) ∧ hi = .int .u64 (hiN (n / 2 ^ t) : Int) ∧ i = .int .i64 x ∧ Hid (x = (W : Int) - 1 - (t : Int)) ∧ RowAt wr g (celN (rowT W n t)) 3 ∧ Below w.heap.size w wr) (fun _ _ i _ => (intOf i + 1).toNat)
  case atStart => exact ⟨0, (W : Int) - 1, by omega, by simp, by simp, rfl, (by show _ = _; omega), r1.drew, below_drew hBY⟩
  case round =>
    obtain ⟨t, x, ht, rfl, rfl, rfl, HX, hr, hb⟩ := hrel
    clear r1 hBY
    by_cases hlt : t < W
    · obtain ⟨i, hi⟩ : ∃ i : Nat, i = W - 1 - t := ⟨_, rfl⟩
      obtain rfl : x = (i : Int) := by have := HX.out; omega
      have hxi : (i : Int) < (W : Int) := by omega
      have d0 : decide ((0 : Int) ≤ (i : Int)) = true := decide_eq_true (by omega)
      have hcell : wr.cell? ⟨g, i, none⟩ = some (.int .i64 ((rowT W n t)[i]'(by rw [rowT_len]; omega) : Int)) := by rw [hr.cell, celN_get]
      have hfz : wr.frozen? ⟨g, i, none⟩ = false := hr.frozen i
      have hm := half_num (n / 2 ^ t) (Nat.lt_of_le_of_lt (Nat.div_le_self _ _) HN.out)
      rw [Nat.div_div_eq_div_mul, ← Nat.pow_succ] at hm
      have hlo := loN_lt (n / 2 ^ t)
      have hhi := hiN_lt (Nat.lt_of_le_of_lt (Nat.div_le_self n (2 ^ t)) HN.out)
      have hbit : loN (n / 2 ^ t) % 2 = (n.testBit t).toNat := by rw [Nat.toNat_testBit]; unfold loN; omega
      have hset := rowT_set W n t hlt
      rw [← hi, ← hbit] at hset
      have HS : Hid (∀ W' : World, RowAt W' g (celN (rowT W n t)) 3 → RowAt (W'.setCell ⟨g, i, none⟩ (.int .i64 ((loN (n / 2 ^ t) % 2 : Nat) : Int))) g (celN (rowT W n (t + 1))) 3) := fun W' h => by
        have := h.set1 i (.int .i64 ((loN (n / 2 ^ t) % 2 : Nat) : Int))
        rw [celN_set, hset] at this
        exact this
      have HH1 : Hid (loN (n / 2 ^ t) / 2 + hiN (n / 2 ^ t) % 2 * 9223372036854775808 = loN (n / 2 ^ (t + 1))) := hm.1
      have HH2 : Hid (hiN (n / 2 ^ t) / 2 = hiN (n / 2 ^ (t + 1))) := hm.2
      generalize (rowT W n t)[i]'(by rw [rowT_len]; omega) = old at hcell
      clear hm hset hbit
      generalize loN (n / 2 ^ t) = lo at *
      generalize hiN (n / 2 ^ t) = hh at *
      have hloi : (lo : Int) ≤ 18446744073709551615 := by omega
      have hhii : (hh : Int) ≤ 18446744073709551615 := by omega
      have HR : Hid (RowAt wr g (celN (rowT W n t)) 3) := hr
      have HI : Hid (i = W - 1 - t) := hi
      clear hlo hhi hr hi
      go_wp2_with fail
      go_roundw
      case rel =>
        refine ⟨t + 1, (i : Int) - 1, by omega, ?_, ?_, rfl, (by show _ = _; have := HI.out; omega), ?_, ?_⟩
        · rw [← HH1.out]; go_num
        · rw [← HH2.out]; go_num
        · exact HS.out _ HR.out
        · exact bset hb (by omega)
      case measure => simp [intOf]
    · obtain rfl : t = W := by omega
      obtain rfl : x = -1 := by have := HX.out; omega
      rw [rowT_all] at hr
      have HR : Hid (RowAt wr g (celN (bitL t n)) 3) := hr
      clear hr
      go_wp2_with fail
      go_ret
      exact ⟨g, by rw [bitL_len]; rfl, hwg, HR.out, hb⟩
end Go.Proofs.YtkjhnefbcnnjlaaGreat.Addr
namespace Go.Proofs.YtkjhnefbcnnjlaaGreat.Addr
open Go.RowKit

theorem right_four (n : Nat) : rightB false n = (decide (hiN n = 0) && decide (loN n < 4294967296)) := by
  unfold rightB hiN loN
  rw [← Bool.decide_and]
  exact decide_eq_decide.2 (by show n < 2 ^ 32 ↔ _; omega)
theorem right_six (n : Nat) (h : n < 2 ^ 128) : rightB true n = true := decide_eq_true h
set_option maxHeartbeats 1000000 in
theorem rright_any (six : Bool) (n : Nat) (w : World) (hn : n < 2 ^ 128) : Calls Tryz.prog 124 #[.bool six, adV n] w fun e w' => e = .returned (.bool (rightB six n)) ∧ Below w.heap.size w w' := by
  obtain ⟨X, hX⟩ : ∃ X, X = w.alloc (.cells #[.int .u64 (hiN n : Int), .int .u64 (loN n : Int)] 31) := ⟨_, rfl⟩
  have hB0 : Below w.heap.size w X := by rw [hX]; exact below_new (Below.refl _ _) _
  have r0 : RowAt X w.heap.size [.int .u64 (hiN n : Int), .int .u64 (loN n : Int)] 31 := by rw [hX]; exact RowAt.new _ _ _
  cases six
  · rw [right_four]
    unfold adV
    have hlt := loN_lt n
    generalize hiN n = h at *
    generalize loN n = l at *
    have hli : (l : Int) ≤ 18446744073709551615 := by omega
    obtain ⟨q0, q1, qf⟩ := cells2 r0
    clear hn r0 hlt
    by_cases h0 : h = 0
    · have h0' : ((h : Int) == 0) = true := by simpa using h0
      have HV : Hid ((decide (h = 0) && decide (l < 4294967296)) = decide ((l : Int) < 4294967296)) := by
        show _ = _
        rw [decide_eq_true h0, Bool.true_and]
        exact decide_eq_decide.2 (by omega)
      generalize (decide (h = 0) && decide (l < 4294967296)) = R at HV ⊢
      clear h0
      go_enter Tryz.func124, Tryz.ntmps124
      go_upto_region 1 with fail
      rw [← hX]
      clear hX
      go_wp2_with fail
      go_ret
      exact ⟨by rw [HV.out]; rfl, hB0⟩
    · have HV : Hid ((decide (h = 0) && decide (l < 4294967296)) = false) := by show _ = _; rw [decide_eq_false h0]; rfl
      generalize (decide (h = 0) && decide (l < 4294967296)) = R at HV ⊢
      have h0' : ((h : Int) == 0) = false := by simpa using h0
      go_enter Tryz.func124, Tryz.ntmps124
      go_upto_region 1 with fail
      rw [← hX]
      clear hX
      go_wp2_with fail
      go_ret
      exact ⟨by rw [HV.out]; rfl, hB0⟩
  · rw [right_six n hn]
    unfold adV
    clear hn r0
    go_enter Tryz.func124, Tryz.ntmps124
    go_upto_region 1 with fail
    rw [← hX]
    clear hX
    go_wp2_with fail
    go_ret
    exact ⟨rfl, hB0⟩
set_option maxHeartbeats 2000000 in
theorem rcmp_any (n m : Nat) (w : World) (hn : n < 2 ^ 128) (hm : m < 2 ^ 128) : Calls Tryz.prog 106 #[adV n, adV m] w fun e w' => e = .returned (.int .i64 (cmpN n m)) ∧ Below w.heap.size w w' := by
  have heq := fun w => ad_eql n m w
  have hgd := ad_guard
  obtain ⟨X, hX⟩ : ∃ X, X = (w.alloc (.cells #[.int .u64 (hiN n : Int), .int .u64 (loN n : Int)] 31)).alloc (.cells #[.int .u64 (hiN m : Int), .int .u64 (loN m : Int)] 31) := ⟨_, rfl⟩
  have hB0 : Below w.heap.size w X := by rw [hX]; exact below_new (below_new (Below.refl _ _) _) _
  have r0 : RowAt X w.heap.size [.int .u64 (hiN n : Int), .int .u64 (loN n : Int)] 31 := by rw [hX]; exact (RowAt.new _ _ _).alloc _
  have r1 : RowAt X (w.heap.size + 1) [.int .u64 (hiN m : Int), .int .u64 (loN m : Int)] 31 := by rw [hX, ← World.size_alloc w (.cells #[.int .u64 (hiN n : Int), .int .u64 (loN n : Int)] 31)]; exact RowAt.new _ _ _
  have e1 := hilo n
  have e2 := hilo m
  have l1 := loN_lt n
  have l2 := loN_lt m
  have u1 := hiN_lt hn
  have u2 := hiN_lt hm
  unfold adV at *
  generalize hiN n = a at *
  generalize loN n = c at *
  generalize hiN m = b at *
  generalize loN m = d at *
  have ai : (a : Int) ≤ 18446744073709551615 := by omega
  have bi : (b : Int) ≤ 18446744073709551615 := by omega
  have ci : (c : Int) ≤ 18446744073709551615 := by omega
  have di : (d : Int) ≤ 18446744073709551615 := by omega
  obtain ⟨q0, q1, qf⟩ := cells2 r0
  obtain ⟨p0, p1, pf⟩ := cells2 r1
  have HL : Hid (n < m ↔ a < b ∨ (a = b ∧ c < d)) := by show _ ↔ _; omega
  have HE : Hid (n = m ↔ (a = b ∧ c = d)) := by show _ ↔ _; omega
  have HC : Hid ((n < m → cmpN n m = -1) ∧ (n = m → cmpN n m = 0) ∧ (m < n → cmpN n m = 1)) := ⟨cmp_lt, fun h => by rw [h]; exact cmp_eq _, cmp_gt⟩
  clear hn hm e1 e2 l1 l2 u1 u2 r0 r1
  generalize hR : cmpN n m = R at *
  clear hR
  by_cases h1 : a < b
  · have d1 : decide ((a : Int) < (b : Int)) = true := decide_eq_true (by omega)
    have d1' : decide (a < b) = true := decide_eq_true h1
    have HV : Hid (R = -1) := HC.out.1 (HL.out.2 (.inl h1))
    rw [decide_eq_false (fun e => by have := HE.out.1 e; omega)] at heq
    clear HL HE HC
    (try clear he)
    go_enter Tryz.func106, Tryz.ntmps106
    go_upto_region 1 with fail
    rw [← hX]
    clear hX
    go_wp2_with fail
    go_ret
    exact ⟨by rw [HV.out]; rfl, hB0⟩
  have d1 : decide ((a : Int) < (b : Int)) = false := decide_eq_false (by omega)
  have d1' : decide (a < b) = false := decide_eq_false h1
  by_cases h2 : a = b
  · subst h2
    by_cases h3 : c < d
    · have d3 : decide ((c : Int) < (d : Int)) = true := decide_eq_true (by omega)
      have d3' : decide (c < d) = true := decide_eq_true h3
      have HV : Hid (R = -1) := HC.out.1 (HL.out.2 (.inr ⟨rfl, h3⟩))
      rw [decide_eq_false (fun e => by have := HE.out.1 e; omega)] at heq
      clear HL HE HC
      (try clear he)
      go_enter Tryz.func106, Tryz.ntmps106
      go_upto_region 1 with fail
      rw [← hX]
      clear hX
      go_wp2_with fail
      go_ret
      exact ⟨by rw [HV.out]; rfl, hB0⟩
    · have d3 : decide ((c : Int) < (d : Int)) = false := decide_eq_false (by omega)
      have d3' : decide (c < d) = false := decide_eq_false h3
      by_cases h4 : c = d
      · have he := HE.out.2 ⟨rfl, h4⟩
        clear h4
        have HV : Hid (R = 0) := HC.out.2.1 (he)
        rw [decide_eq_true he] at heq
        clear HL HE HC
        (try clear he)
        go_enter Tryz.func106, Tryz.ntmps106
        go_upto_region 1 with fail
        rw [← hX]
        clear hX
        go_wp2_with fail
        go_ret
        exact ⟨by rw [HV.out]; rfl, hB0⟩
      · have he : ¬ n = m := fun e => h4 (HE.out.1 e).2
        have hgt : m < n := by have := HL.out; omega
        have HV : Hid (R = 1) := HC.out.2.2 (hgt)
        rw [decide_eq_false he] at heq
        clear HL HE HC
        (try clear he)
        go_enter Tryz.func106, Tryz.ntmps106
        go_upto_region 1 with fail
        rw [← hX]
        clear hX
        go_wp2_with fail
        go_ret
        exact ⟨by rw [HV.out]; rfl, hB0⟩
  · have d2 : ((a : Int) == (b : Int)) = false := by rw [beq_eq_false_iff_ne]; omega
    have d2' : (a == b) = false := by rw [beq_eq_false_iff_ne]; exact h2
    have he : ¬ n = m := fun e => h2 (HE.out.1 e).1
    have hgt : m < n := by have := HL.out; omega
    have HV : Hid (R = 1) := HC.out.2.2 (hgt)
    rw [decide_eq_false he] at heq
    clear HL HE HC
    (try clear he)
    go_enter Tryz.func106, Tryz.ntmps106
    go_upto_region 1 with fail
    rw [← hX]
    clear hX
    go_wp2_with fail
    go_ret
    exact ⟨by rw [HV.out]; rfl, hB0⟩
end Go.Proofs.YtkjhnefbcnnjlaaGreat.Addr
