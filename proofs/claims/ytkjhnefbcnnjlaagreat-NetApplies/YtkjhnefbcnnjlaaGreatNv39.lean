/- The document's happens. -/
import Derived.Test.YtkjhnefbcnnjlaaGreatNv33
import Derived.Test.YtkjhnefbcnnjlaaGreatNv22
import Derived.Test.YtkjhnefbcnnjlaaGreatNv36
import Derived.Test.YtkjhnefbcnnjlaaGreatNv38
set_option linter.unusedVariables false
namespace Go.Proofs.YtkjhnefbcnnjlaaGreat.Nt
open Go.RowKit
open Go.Proofs.YtkjhnefbcnnjlaaGreat.Lk (HasLks HasRow HasLks.keep)
open Go.Proofs.YtkjhnefbcnnjlaaGreat.Tr (HasRts HasRts.keep)
open Go.Proofs.YtkjhnefbcnnjlaaGreat.Fib
open Go.Proofs.YtkjhnefbcnnjlaaGreat.Ord (St HasSts HasSts.keep HasSts.cell HasEvs.keep)
open Go.Proofs.YtkjhnefbcnnjlaaGreat.Addr (RowAt below2 below_new bset RowAt.lt RowAt.cell RowAt.below RowAt.new RowAt.alloc RowAt.gkeep gset grefl cells2 cells4)
attribute [-go_sem] Builtin.append_
set_option maxHeartbeats 32000000 in
set_option maxRecDepth 20000 in
theorem hap_some (so lo : Option Addr) (sn sc ln lc : Nat) (ea eb ec ed : Int) (ee : Bool) (ef eg eh ei ej ek el : Int) (h zm za zn zf zk sz : Int) (S S2 : List St) (L : List Ro) (F M A : Ro) (g : Int → Ro) (R : NetT × Int) (w : World) (hS : HasSts w (.slice so sn sc) S) (hL : HasRos w (.slice lo ln lc) L)
    (cM : ∀ W, HasSts W (.slice so sn sc) S → Calls Tryz.prog 35 #[.slice so sn sc, .agg #[.int .u8 ea, .int .i64 eb, .int .u64 ec, .int .i64 ed, .bool ee, .int .u64 ef, .int .u64 eg, .int .i64 eh, .int .u8 ei, .int .i64 ej, .int .i64 ek, .int .i64 el], .int .i64 h] W fun e w' => e = .returned (.int .i64 zm) ∧ Below W.heap.size W w')
    (cF : ∀ W, HasSts W (.slice so sn sc) S → HasRos W (.slice lo ln lc) L → Calls Tryz.prog 36 #[.agg #[.slice so sn sc, .slice lo ln lc], .int .i64 eb] W (FdIs F true W))
    (cG : ∀ W (w0 : World) (id : Int), HasSts W (.slice so sn sc) S → HasRos w0 (.slice lo ln lc) L → Below w0.heap.size w0 W → Calls Tryz.prog 36 #[.agg #[.slice so sn sc, .slice lo ln lc], .int .i64 id] W fun e w' => ∃ b, FdOf w0 (g id) b W e w')
    
    (cA : ∀ W a b, HasRts W a M.rts → HasLks W b M.lks → Calls Tryz.prog 38 #[.agg #[.int .i64 M.id, .bool M.up, a, b], .agg #[.int .u8 ea, .int .i64 eb, .int .u64 ec, .int .i64 ed, .bool ee, .int .u64 ef, .int .u64 eg, .int .i64 eh, .int .u8 ei, .int .i64 ej, .int .i64 ek, .int .i64 el]] W (RoIs A za W))
    (cN : ∀ W, HasSts W (.slice so sn sc) S → Calls Tryz.prog 39 #[.slice so sn sc, .agg #[.int .u8 ea, .int .i64 eb, .int .u64 ec, .int .i64 ed, .bool ee, .int .u64 ef, .int .u64 eg, .int .i64 eh, .int .u8 ei, .int .i64 ej, .int .i64 ek, .int .i64 el], .int .i64 h] W fun e w' => ∃ o n m, e = .returned (.tuple #[.slice o n m, .int .i64 zn]) ∧ HasSts w' (.slice o n m) S2 ∧ Below W.heap.size W w')
    (cY : zm = 0 → za = 0 → ∀ W v, HasRos W v (S2.map (fun s => if s.router = eb then A else g s.router)) → Calls Tryz.prog 27 #[v] W fun e w' => e = .returned (.int .i64 sz) ∧ Below W.heap.size W w')
    (hn2 : zm = 0 → za = 0 → S2.length ≤ 1000)
    (HFM : Hid (F = M)) (HR : Hid (R = if zm = 0 then (if za = 0 then (if 1024 < sz then (⟨S, L⟩, 8) else (⟨S2, S2.map (fun s => if s.router = eb then A else g s.router)⟩, 0)) else (⟨S, L⟩, za)) else (⟨S, L⟩, zm))) :
    Calls Tryz.prog 16 #[.agg #[.slice so sn sc, .slice lo ln lc], .agg #[.int .u8 ea, .int .i64 eb, .int .u64 ec, .int .i64 ed, .bool ee, .int .u64 ef, .int .u64 eg, .int .i64 eh, .int .u8 ei, .int .i64 ej, .int .i64 ek, .int .i64 el], .int .i64 h] w (NetIs R.1 R.2 w) := by
  have hB := Below.refl w.heap.size w
  have HS0 : Hid (∀ W : World, Below w.heap.size w W → HasSts W (.slice so sn sc) S) := fun W hb => hS.keep hb
  have HL0 : Hid (∀ W : World, Below w.heap.size w W → HasRos W (.slice lo ln lc) L) := fun W hb => hL.keep hb
  clear hS hL
  go_enter Tryz.func16, Tryz.ntmps16
  obtain ⟨Y1, hY⟩ : ∃ Y, Y = (((w.alloc (.cells #[.slice so sn sc, .slice lo ln lc] 25)).alloc (.cells #[.int .u8 ea, .int .i64 eb, .int .u64 ec, .int .i64 ed, .bool ee, .int .u64 ef, .int .u64 eg, .int .i64 eh, .int .u8 ei, .int .i64 ej, .int .i64 ek, .int .i64 el] 38)).alloc (.cells #[.slice none 0 0, .slice none 0 0] 25)) := ⟨_, rfl⟩
  have hbY : Below w.heap.size w Y1 := by rw [hY]; exact below_new (below_new (below_new (Below.refl _ _) _) _) _
  have hle : w.heap.size ≤ w.heap.size := hB.size
  obtain ⟨gn, hgn⟩ : ∃ g, g = w.heap.size := ⟨_, rfl⟩
  have rn : RowAt Y1 gn [.slice so sn sc, .slice lo ln lc] 25 := by
    have h := ((RowAt.new w [.slice so sn sc, .slice lo ln lc] 25).alloc (.cells #[.int .u8 ea, .int .i64 eb, .int .u64 ec, .int .i64 ed, .bool ee, .int .u64 ef, .int .u64 eg, .int .i64 eh, .int .u8 ei, .int .i64 ej, .int .i64 ek, .int .i64 el] 38)).alloc (.cells #[.slice none 0 0, .slice none 0 0] 25)
    rw [hgn, hY]; exact h
  have len : w.heap.size ≤ gn := by omega
  obtain ⟨ge, hge⟩ : ∃ g, g = w.heap.size + 1 := ⟨_, rfl⟩
  have re : RowAt Y1 ge [.int .u8 ea, .int .i64 eb, .int .u64 ec, .int .i64 ed, .bool ee, .int .u64 ef, .int .u64 eg, .int .i64 eh, .int .u8 ei, .int .i64 ej, .int .i64 ek, .int .i64 el] 38 := by
    have h := (RowAt.new (w.alloc (.cells #[.slice so sn sc, .slice lo ln lc] 25)) [.int .u8 ea, .int .i64 eb, .int .u64 ec, .int .i64 ed, .bool ee, .int .u64 ef, .int .u64 eg, .int .i64 eh, .int .u8 ei, .int .i64 ej, .int .i64 ek, .int .i64 el] 38).alloc (.cells #[.slice none 0 0, .slice none 0 0] 25)
    simp only [World.size_alloc] at h
    rw [hge, hY]; exact h
  have lee : w.heap.size ≤ ge := by omega
  have nene : gn ≠ ge := by omega
  obtain ⟨gz, hgz⟩ : ∃ g, g = w.heap.size + 1 + 1 := ⟨_, rfl⟩
  have rz : RowAt Y1 gz [.slice none 0 0, .slice none 0 0] 25 := by
    have h := RowAt.new ((w.alloc (.cells #[.slice so sn sc, .slice lo ln lc] 25)).alloc (.cells #[.int .u8 ea, .int .i64 eb, .int .u64 ec, .int .i64 ed, .bool ee, .int .u64 ef, .int .u64 eg, .int .i64 eh, .int .u8 ei, .int .i64 ej, .int .i64 ek, .int .i64 el] 38)) [.slice none 0 0, .slice none 0 0] 25
    simp only [World.size_alloc] at h
    rw [hgz, hY]; exact h
  have lez : w.heap.size ≤ gz := by omega
  have nenz : gn ≠ gz := by omega
  have neez : ge ≠ gz := by omega
  replace hB := below2 hB hbY
  go_upto_region 1 with fail
  rw [← hY, ← hgz, ← hge, ← hgn]
  clear hY hbY hle hgn hge hgz
  obtain ⟨n0, n1, nf⟩ := cells2 rn
  obtain ⟨e0, e1, e2, e3, e4, e5, e6, e7, e8, e9, e10, e11, ef⟩ := cells12 re
  go_wp2_with fail
  clear n0 n1 nf e0 e1 e2 e3 e4 e5 e6 e7 e8 e9 e10 e11 ef
  go_at_call 35; refine (cM _ (HS0.out _ hB)).mono ?_; rintro e w2 ⟨rfl, hb⟩
  replace rn := RowAt.below rn hb
  replace re := RowAt.below re hb
  replace rz := RowAt.below rz hb
  replace hB := below2 hB hb
  clear hb
  by_cases hzm : zm = 0
  · subst hzm
    have HR2 : Hid (R = if za = 0 then (if 1024 < sz then (⟨S, L⟩, 8) else (⟨S2, S2.map (fun s => if s.router = eb then A else g s.router)⟩, 0)) else (⟨S, L⟩, za)) := by show _ = _; rw [HR.out, if_pos rfl]
    replace cY := cY rfl
    replace hn2 := hn2 rfl
    clear cM HR
    obtain ⟨n0, n1, nf⟩ := cells2 rn
    obtain ⟨e0, e1, e2, e3, e4, e5, e6, e7, e8, e9, e10, e11, ef⟩ := cells12 re
    go_wp2_with fail
    clear n0 n1 nf e0 e1 e2 e3 e4 e5 e6 e7 e8 e9 e10 e11 ef
    go_at_call 36; refine (cF _ (HS0.out _ hB) (HL0.out _ hB)).mono ?_; rintro e w3 ⟨o4, n4, m4, o5, n5, m5, rfl, ha4, hb4, hb⟩
    replace rn := RowAt.below rn hb
    replace re := RowAt.below re hb
    replace rz := RowAt.below rz hb
    replace hB := below2 hB hb
    clear hb
    obtain ⟨Y4, hY⟩ : ∃ Y, Y = (w3.alloc (.cells #[.int .i64 F.id, .bool F.up, .slice o4 n4 m4, .slice o5 n5 m5] 51)) := ⟨_, rfl⟩
    have hbY : Below w3.heap.size w3 Y4 := by rw [hY]; exact below_new (Below.refl _ _) _
    have hle : w.heap.size ≤ w3.heap.size := hB.size
    obtain ⟨gm, hgm⟩ : ∃ g, g = w3.heap.size := ⟨_, rfl⟩
    have rm : RowAt Y4 gm [.int .i64 F.id, .bool F.up, .slice o4 n4 m4, .slice o5 n5 m5] 51 := by
      have h := RowAt.new w3 [.int .i64 F.id, .bool F.up, .slice o4 n4 m4, .slice o5 n5 m5] 51
      rw [hgm, hY]; exact h
    have lem : w.heap.size ≤ gm := by omega
    have nenm : gn ≠ gm := by have := RowAt.lt rn; omega
    have neem : ge ≠ gm := by have := RowAt.lt re; omega
    have nezm : gz ≠ gm := by have := RowAt.lt rz; omega
    replace rn := RowAt.below rn hbY
    replace re := RowAt.below re hbY
    replace rz := RowAt.below rz hbY
    replace ha4 := ha4.keep hbY
    replace hb4 := hb4.keep hbY
    replace hB := below2 hB hbY
    go_upto_region 5 with fail
    rw [← hY, ← hgm]
    clear hY hbY hle hgm
    clear cF
    have hFM := HFM.out
    subst hFM
    clear HFM
    obtain ⟨m0, m1, m2, m3, mf⟩ := cells4 rm
    obtain ⟨e0, e1, e2, e3, e4, e5, e6, e7, e8, e9, e10, e11, ef⟩ := cells12 re
    go_wp2_with fail
    clear m0 m1 m2 m3 mf e0 e1 e2 e3 e4 e5 e6 e7 e8 e9 e10 e11 ef
    go_at_call 38; refine (cA _ _ _ ha4 hb4).mono ?_; rintro e w5 ⟨oa, na, ma, ob, nb, mb, rfl, ha8, hb8, hb⟩
    replace rn := RowAt.below rn hb
    replace re := RowAt.below re hb
    replace rz := RowAt.below rz hb
    replace rm := RowAt.below rm hb
    replace ha4 := ha4.keep hb
    replace hb4 := hb4.keep hb
    replace hB := below2 hB hb
    clear hb
    clear ha4 hb4
    obtain ⟨m0, m1, m2, m3, mf⟩ := cells4 rm
    obtain ⟨Y6, hY⟩ : ∃ Y, Y = ((((w5.setCell ⟨gm, 0, none⟩ (.int .i64 A.id)).setCell ⟨gm, 1, none⟩ (.bool A.up)).setCell ⟨gm, 2, none⟩ (.slice oa na ma)).setCell ⟨gm, 3, none⟩ (.slice ob nb mb)) := ⟨_, rfl⟩
    have hG : w5.grownBy Y6 (some gm) := by rw [hY]; exact set4_gr _ _ _ _ _ _
    replace hB : Below w.heap.size w Y6 := by rw [hY]; exact set4_bl hB lem _ _ _ _
    replace ha8 := rts_apart ha8 rm hG
    replace hb8 := lks_apart hb8 rm hG
    replace rm : RowAt Y6 gm [.int .i64 A.id, .bool A.up, .slice oa na ma, .slice ob nb mb] 51 := by rw [hY]; exact set4_row rm _ _ _ _
    replace rn := RowAt.gkeep rn hG (by intro h; injection h with h; omega)
    replace re := RowAt.gkeep re hG (by intro h; injection h with h; omega)
    replace rz := RowAt.gkeep rz hG (by intro h; injection h with h; omega)
    go_upto_region 8 with fail
    clear m0 m1 m2 m3 mf
    rw [← hY]
    clear hY hG
    clear cA
    by_cases hza : za = 0
    · subst hza
      have HR3 : Hid (R = if 1024 < sz then (⟨S, L⟩, 8) else (⟨S2, S2.map (fun s => if s.router = eb then A else g s.router)⟩, 0)) := by show _ = _; rw [HR2.out, if_pos rfl]
      replace cY := cY rfl
      replace hn2 := hn2 rfl
      clear HR2
      obtain ⟨n0, n1, nf⟩ := cells2 rn
      obtain ⟨e0, e1, e2, e3, e4, e5, e6, e7, e8, e9, e10, e11, ef⟩ := cells12 re
      go_wp2_with fail
      clear n0 n1 nf e0 e1 e2 e3 e4 e5 e6 e7 e8 e9 e10 e11 ef
      go_at_call 39; refine (cN _ (HS0.out _ hB)).mono ?_; rintro e w7 ⟨o8, n8, m8, rfl, hT, hb⟩
      replace rn := RowAt.below rn hb
      replace re := RowAt.below re hb
      replace rz := RowAt.below rz hb
      replace rm := RowAt.below rm hb
      replace ha8 := ha8.keep hb
      replace hb8 := hb8.keep hb
      replace hB := below2 hB hb
      clear hb
      clear cN
      have HSL : Hid (n8 = S2.length) := by
        obtain ⟨q1, q2, q3, _⟩ := Ord.HasRow.slice hT
        injection q3 with q3 q4 q5
      have hn8 : (n8 : Int) ≤ 1000 := by have := HSL.out; omega
      obtain ⟨gx, hgx⟩ : ∃ g, g = w7.heap.size := ⟨_, rfl⟩
      have hzx : Hid (w7.heap.size ≤ gx ∧ gz < gx) := ⟨by omega, by have := RowAt.lt rz; omega⟩
      obtain ⟨X, hX⟩ : ∃ X, X = w7.alloc (.cells #[.slice o8 n8 m8, .slice none 0 0] 25) := ⟨_, rfl⟩
      have hbX : Below w7.heap.size w7 X := by rw [hX]; exact below_new (Below.refl _ _) _
      have rx : RowAt X gx [.slice o8 n8 m8, .slice none 0 0] 25 := by rw [hX, hgx]; exact RowAt.new _ _ _
      have hI : Hid (CpI w7 X gx gz (.slice o8 n8 m8) (.slice none 0 0) S2 ((S2.map (fun s => if s.router = eb then A else g s.router)).take 0)) := ⟨hbX, rx, RowAt.below rz hbX, hT.keep hbX, GrowM.nil _ _, fun b e => by simp [Value.ownBlock] at e⟩
      have hT0 : Hid (0 < S2.length → ∀ b, (Value.slice o8 n8 m8).ownBlock = some b → b < gx) := fun hp b e => by
        have h' : HasRow w7 (.slice o8 n8 m8) 4 S2.length (Ord.stCs S2) := hT
        rcases h'.2 with ⟨q1, q2⟩ | ⟨a, cap, q1, q2, q3, q4, q5⟩
        · omega
        · injection q1 with q1
          subst q1
          have := (q4 hp).2
          simp only [Value.ownBlock, Option.some.injEq] at e
          omega
      have HM0 : Hid (RowsOf w7 ⟨A, .slice oa na ma, .slice ob nb mb⟩) := ⟨ha8, hb8⟩
      have HLL : Hid ((S2.map (fun s => if s.router = eb then A else g s.router)).length = n8) := by show _ = _; rw [List.length_map, HSL.out]
      have HGX : Hid (gx = w7.heap.size) := hgx
      go_upto_region 12 with fail
      rw [← hX, ← hgx]
      clear hX hbX ha8 hb8 hT rx hgx
      go_wp2_with fail
      go_loopw [65] (fun i wr => ∃ k : Nat, k ≤ n8 ∧ i = .int .i64 k ∧ ∃ o6 c6, Hid (CpI w7 wr gx gz (.slice o8 n8 m8) (.slice o6 k c6) S2 ((S2.map (fun s => if s.router = eb then A else g s.router)).take k))) (fun i wr => (n8 - Go.RowKit.intOf i).toNat)
      case atStart => exact ⟨0, by omega, rfl, none, 0, hI⟩
      case round =>
        obtain ⟨k, hk, rfl, o6, c6, HI⟩ := hrel
        clear hI
        by_cases hlt : k < n8
        · have hkz : k < S2.length := by rw [← HSL.out]; exact hlt
          obtain ⟨b1, i1, rfl, hb1, x0, x1, x2, x3⟩ := HasSts.cell HI.out.sts k hkz
          have hkm : k < (S2.map (fun s => if s.router = eb then A else g s.router)).length := by rw [HLL.out]; exact hlt
          have etk : Hid ((S2.map (fun s => if s.router = eb then A else g s.router)).take (k + 1) = (S2.map (fun s => if s.router = eb then A else g s.router)).take k ++ [if S2[k].router = eb then A else g S2[k].router]) := by show _ = _; rw [List.take_succ_eq_append_getElem hkm, List.getElem_map]
          have elk : Hid (((S2.map (fun s => if s.router = eb then A else g s.router)).take k).length = k) := by show _ = _; rw [List.length_take, HLL.out]; omega
          have HST : Hid (∀ (V w5 : World) (Q : Ro) (x y : Value), Q = (if S2[k].router = eb then A else g S2[k].router) → CpI w7 V gx gz (.slice (some ⟨b1, i1, none⟩) n8 m8) (.slice o6 k c6) S2 ((S2.map (fun s => if s.router = eb then A else g s.router)).take k) → Below V.heap.size V w5 → RowsOf w7 ⟨Q, x, y⟩ → ∃ o' c' W', (∀ ty, (Builtin.append_ #[23, 23] ty #[.slice o6 k c6, .slice (some ⟨w5.heap.size, 0, none⟩) 1 1]).run Tryz.prog (w5.alloc (.cells #[.int .i64 Q.id, .bool Q.up, x, y] 51)) = .ok (.slice o' (k + 1) c') W') ∧ RowAt W' gx [.slice (some ⟨b1, i1, none⟩) n8 m8, .slice o6 k c6] 25 ∧ Hid (CpI w7 (W'.setCell ⟨gx, 1, none⟩ (.slice o' (k + 1) c')) gx gz (.slice (some ⟨b1, i1, none⟩) n8 m8) (.slice o' (k + 1) c') S2 ((S2.map (fun s => if s.router = eb then A else g s.router)).take (k + 1)))) := fun V w5 Q x y q0 q1 q2 q3 => by
            have := q1.put hT0.out hzx.out Q x y q2 (q3.keep (below2 q1.bel q2)) (fun b hb1 hb2 => q3.elder (by have := HGX.out; omega)) (by have := elk.out; omega)
            rw [elk.out, q0, ← etk.out] at this
            rw [q0]
            exact this
          clear etk elk HLL
          obtain ⟨s, hs⟩ : ∃ s, s = S2[k] := ⟨_, rfl⟩
          rw [← hs] at x0 x1 x2 x3 HST
          clear hs
          have hki : (k : Int) < (n8 : Int) := by omega
          obtain ⟨V, hV⟩ : ∃ V, V = wr.alloc (.cells #[.int .i64 s.router, .int .u64 (s.seq : Int), .int .i64 s.time, .bool s.up] 70) := ⟨_, rfl⟩
          have hbV : Below wr.heap.size wr V := by rw [hV]; exact below_new (Below.refl _ _) _
          have rV : RowAt V wr.heap.size [.int .i64 s.router, .int .u64 (s.seq : Int), .int .i64 s.time, .bool s.up] 70 := by rw [hV]; exact RowAt.new _ _ _
          have HV : Hid (CpI w7 V gx gz (.slice (some ⟨b1, i1, none⟩) n8 m8) (.slice o6 k c6) S2 ((S2.map (fun s => if s.router = eb then A else g s.router)).take k)) := ⟨below2 HI.out.bel hbV, HI.out.rx.below hbV, HI.out.rz.below hbV, HI.out.sts.keep hbV, HI.out.grow.below hbV, HI.out.new⟩
          clear HI
          go_upto_region 15 with fail
          rw [← hV]
          clear hV hbV x0 x1 x2 x3 hb1
          generalize wr.heap.size = gs at rV ⊢
          have hbw : Below w.heap.size w V := below2 hB HV.out.bel
          have cg := cG V w7 s.router (HS0.out _ hbw) (HL0.out _ hB) HV.out.bel
          obtain ⟨t0, t1, t2, t3, tf⟩ := cells4 rV
          obtain ⟨n0, n1, nf⟩ := cells2 (RowAt.below rn HV.out.bel)
          go_wp2_with fail
          go_at_call 36; refine cg.mono ?_; rintro e w5 ⟨is, j1, j2, j3, j4, j5, j6, rfl, hrf, hb5⟩
          clear t0 t1 t2 t3 tf n0 n1 nf cg hbw
          obtain ⟨Y, hY⟩ : ∃ Y, Y = w5.alloc (.cells #[.int .i64 (g s.router).id, .bool (g s.router).up, .slice j1 j2 j3, .slice j4 j5 j6] 51) := ⟨_, rfl⟩
          have hbY : Below w5.heap.size w5 Y := by rw [hY]; exact below_new (Below.refl _ _) _
          have hb6 : Below V.heap.size V Y := below2 hb5 hbY
          have rY : RowAt Y w5.heap.size [.int .i64 (g s.router).id, .bool (g s.router).up, .slice j1 j2 j3, .slice j4 j5 j6] 51 := by rw [hY]; exact RowAt.new _ _ _
          have HRF : Hid (RowsOf w7 ⟨g s.router, .slice j1 j2 j3, .slice j4 j5 j6⟩) := hrf
          have hVw5 : V.heap.size ≤ w5.heap.size := hb5.size
          go_upto_region 16 with fail
          rw [← hY]
          clear hY hbY hb5 hrf
          generalize w5.heap.size = gr at rY hVw5 ⊢
          have hbv := below2 HV.out.bel hb6
          obtain ⟨t0, t1, t2, t3, tf⟩ := cells4 (RowAt.below rV hb6)
          obtain ⟨⟨e0, e1, e2, e3, e4, e5⟩, ⟨e6, e7, e8, e9, e10, e11⟩, ef⟩ := Msg.cells12' (RowAt.below re hbv)
          by_cases hse : s.router = eb
          · have hsb : (s.router == eb) = true := beq_iff_eq.2 hse
            obtain ⟨mm0, mm1, mm2, mm3, mmf⟩ := cells4 (RowAt.below rm hbv)
            obtain ⟨y0, y1, y2, y3, yf⟩ := cells4 rY
            obtain ⟨Z, hZ⟩ : ∃ Z, Z = (((Y.setCell ⟨gr, 0, none⟩ (.int .i64 A.id)).setCell ⟨gr, 1, none⟩ (.bool A.up)).setCell ⟨gr, 2, none⟩ (.slice oa na ma)).setCell ⟨gr, 3, none⟩ (.slice ob nb mb) := ⟨_, rfl⟩
            have rZ : RowAt Z gr [.int .i64 A.id, .bool A.up, .slice oa na ma, .slice ob nb mb] 51 := by rw [hZ]; exact set4_row rY _ _ _ _
            have hbZ : Below V.heap.size V Z := by rw [hZ]; exact set4_bl hb6 hVw5 _ _ _ _
            have hgrl : gr < Z.heap.size := RowAt.lt rZ
            go_upto_region 18 with fail
            rw [← hZ]
            clear hZ mm0 mm1 mm2 mm3 mmf y0 y1 y2 y3 yf t0 t1 t2 t3 tf e0 e1 e2 e3 e4 e5 e6 e7 e8 e9 e10 e11 ef rY hb6 hbv
            obtain ⟨o7, c7, w6, hrun, rx6, HF⟩ := HST.out V Z A _ _ (by rw [if_pos hse]) HV.out hbZ HM0.out
            obtain ⟨y0, y1, y2, y3, yf⟩ := cells4 rZ
            have rx5 := RowAt.below HV.out.rx hbZ
            obtain ⟨v0, v1, vf⟩ := cells2 rx5
            obtain ⟨u0, u1, uf⟩ := cells2 rx6
            go_upto_region 19 with fail
            obtain ⟨Q, hQ⟩ : ∃ Q, Q = w6.setCell ⟨gx, 1, none⟩ (.slice o7 (k + 1) c7) := ⟨_, rfl⟩
            rw [← hQ] at HF ⊢
            clear hQ hrun rx6 rx5 v0 v1 vf u0 u1 uf y0 y1 y2 y3 yf HST
            go_wp2_with fail
            go_roundw
            case rel => exact ⟨k + 1, by omega, by go_num, o7, c7, HF⟩
            case measure => simp [Go.RowKit.intOf]; omega
          · have hsb : (s.router == eb) = false := beq_eq_false_iff_ne.2 hse
            go_upto_region 18 with fail
            clear t0 t1 t2 t3 tf e0 e1 e2 e3 e4 e5 e6 e7 e8 e9 e10 e11 ef hbv
            obtain ⟨o7, c7, w6, hrun, rx6, HF⟩ := HST.out V Y (g s.router) _ _ (by rw [if_neg hse]) HV.out hb6 HRF.out
            obtain ⟨y0, y1, y2, y3, yf⟩ := cells4 rY
            have rx5 := RowAt.below HV.out.rx hb6
            obtain ⟨v0, v1, vf⟩ := cells2 rx5
            obtain ⟨u0, u1, uf⟩ := cells2 rx6
            go_upto_region 19 with fail
            obtain ⟨Q, hQ⟩ : ∃ Q, Q = w6.setCell ⟨gx, 1, none⟩ (.slice o7 (k + 1) c7) := ⟨_, rfl⟩
            rw [← hQ] at HF ⊢
            clear hQ hrun rx6 rx5 v0 v1 vf u0 u1 uf y0 y1 y2 y3 yf HST
            go_wp2_with fail
            go_roundw
            case rel => exact ⟨k + 1, by omega, by go_num, o7, c7, HF⟩
            case measure => simp [Go.RowKit.intOf]; omega
        · have hkn2 : k = n8 := by omega
          subst hkn2
          have hkd : decide ((k : Int) < (k : Int)) = false := decide_eq_false (by omega)
          have etk : (S2.map (fun s => if s.router = eb then A else g s.router)).take k = S2.map (fun s => if s.router = eb then A else g s.router) := List.take_of_length_le (by rw [HLL.out]; exact Nat.le_refl _)
          rw [etk] at HI
          have cy := cY wr _ HI.out.grow.has
          obtain ⟨v0, v1, vf⟩ := cells2 HI.out.rx
          clear cY cG etk
          go_wp2_with fail
          go_at_call 27; refine cy.mono ?_; rintro e w7 ⟨rfl, hb7⟩
          clear v0 v1 vf cy
          have hbl := below2 HI.out.bel hb7
          have hbw := below2 hB hbl
          have hT7 := HI.out.sts.keep hb7
          have hM7 := HI.out.grow.has.keep hb7
          replace rz := RowAt.below rz hbl
          obtain ⟨n0, n1, nf⟩ := cells2 (RowAt.below rn hbl)
          obtain ⟨v0, v1, vf⟩ := cells2 (RowAt.below HI.out.rx hb7)
          clear HI
          by_cases h10 : 1024 < sz
          · have HVV : Hid (R = (⟨S, L⟩, 8)) := by show _ = _; rw [HR3.out, if_pos h10]
            clear HR3
            obtain ⟨z0, z1, zf⟩ := cells2 rz
            go_wp2_with fail
            (try simp only [Exit.inBlock, Exit.then])
            refine bodyPost_ret (v := .tuple #[.agg #[.slice so sn sc, .slice lo ln lc], .int .i64 8]) ?_ rfl ⟨_, _, _, _, _, _, by rw [HVV.out], by rw [HVV.out]; exact sts_off (HS0.out _ hbw) rz (gset (gset (grefl _ _))), by rw [HVV.out]; exact ros_off (HL0.out _ hbw) rz (gset (gset (grefl _ _))), bset (bset hbw lez) lez⟩
            · rw [results_cell_tmp rfl]
              go_simp
          · have HVV : Hid (R = (⟨S2, S2.map (fun s => if s.router = eb then A else g s.router)⟩, 0)) := by show _ = _; rw [HR3.out, if_neg h10]
            clear HR3
            obtain ⟨z0, z1, zf⟩ := cells2 rz
            go_wp2_with fail
            (try simp only [Exit.inBlock, Exit.then])
            refine bodyPost_ret (v := .tuple #[.agg #[.slice o8 k m8, .slice o6 k c6], .int .i64 0]) ?_ rfl ⟨_, _, _, _, _, _, by rw [HVV.out], by rw [HVV.out]; exact sts_off hT7 rz (gset (gset (grefl _ _))), by rw [HVV.out]; exact ros_off hM7 rz (gset (gset (grefl _ _))), bset (bset hbw lez) lez⟩
            · rw [results_cell_tmp rfl]
              go_simp
    · have HVV : Hid (R = (⟨S, L⟩, za)) := by show _ = _; rw [HR2.out, if_neg hza]
      have hab : (za != 0) = true := bne_iff_ne.2 hza
      clear cG cN cY hn2 HR2 hza
      obtain ⟨n0, n1, nf⟩ := cells2 rn
      obtain ⟨z0, z1, zf⟩ := cells2 rz
      go_wp2_with fail
      (try simp only [Exit.inBlock, Exit.then])
      refine bodyPost_ret (v := .tuple #[.agg #[.slice so sn sc, .slice lo ln lc], .int .i64 za]) ?_ rfl ⟨_, _, _, _, _, _, by rw [HVV.out], by rw [HVV.out]; exact sts_off (HS0.out _ hB) rz (gset (gset (grefl _ _))), by rw [HVV.out]; exact ros_off (HL0.out _ hB) rz (gset (gset (grefl _ _))), bset (bset hB lez) lez⟩
      · rw [results_cell_tmp rfl]
        go_simp
  · have HVV : Hid (R = (⟨S, L⟩, zm)) := by show _ = _; rw [HR.out, if_neg hzm]
    have hmb : (zm != 0) = true := bne_iff_ne.2 hzm
    clear cM cF cG cA cN cY hn2 HR HFM hzm
    obtain ⟨n0, n1, nf⟩ := cells2 rn
    obtain ⟨z0, z1, zf⟩ := cells2 rz
    go_wp2_with fail
    (try simp only [Exit.inBlock, Exit.then])
    refine bodyPost_ret (v := .tuple #[.agg #[.slice so sn sc, .slice lo ln lc], .int .i64 zm]) ?_ rfl ⟨_, _, _, _, _, _, by rw [HVV.out], by rw [HVV.out]; exact sts_off (HS0.out _ hB) rz (gset (gset (grefl _ _))), by rw [HVV.out]; exact ros_off (HL0.out _ hB) rz (gset (gset (grefl _ _))), bset (bset hB lez) lez⟩
    · rw [results_cell_tmp rfl]
      go_simp
set_option maxHeartbeats 32000000 in
set_option maxRecDepth 20000 in
theorem hap_none (so lo : Option Addr) (sn sc ln lc : Nat) (ea eb ec ed : Int) (ee : Bool) (ef eg eh ei ej ek el : Int) (h zm za zn zf zk sz : Int) (S S2 : List St) (L : List Ro) (F M A : Ro) (g : Int → Ro) (R : NetT × Int) (w : World) (hS : HasSts w (.slice so sn sc) S) (hL : HasRos w (.slice lo ln lc) L)
    (cM : ∀ W, HasSts W (.slice so sn sc) S → Calls Tryz.prog 35 #[.slice so sn sc, .agg #[.int .u8 ea, .int .i64 eb, .int .u64 ec, .int .i64 ed, .bool ee, .int .u64 ef, .int .u64 eg, .int .i64 eh, .int .u8 ei, .int .i64 ej, .int .i64 ek, .int .i64 el], .int .i64 h] W fun e w' => e = .returned (.int .i64 zm) ∧ Below W.heap.size W w')
    (cF : ∀ W, HasSts W (.slice so sn sc) S → HasRos W (.slice lo ln lc) L → Calls Tryz.prog 36 #[.agg #[.slice so sn sc, .slice lo ln lc], .int .i64 eb] W (FdIs F false W))
    (cG : ∀ W (w0 : World) (id : Int), HasSts W (.slice so sn sc) S → HasRos w0 (.slice lo ln lc) L → Below w0.heap.size w0 W → Calls Tryz.prog 36 #[.agg #[.slice so sn sc, .slice lo ln lc], .int .i64 id] W fun e w' => ∃ b, FdOf w0 (g id) b W e w')
    (cK : ∀ W, Calls Tryz.prog 37 #[.int .i64 eb] W (RoIs M zk W))
    (cA : ∀ W a b, HasRts W a M.rts → HasLks W b M.lks → Calls Tryz.prog 38 #[.agg #[.int .i64 M.id, .bool M.up, a, b], .agg #[.int .u8 ea, .int .i64 eb, .int .u64 ec, .int .i64 ed, .bool ee, .int .u64 ef, .int .u64 eg, .int .i64 eh, .int .u8 ei, .int .i64 ej, .int .i64 ek, .int .i64 el]] W (RoIs A za W))
    (cN : ∀ W, HasSts W (.slice so sn sc) S → Calls Tryz.prog 39 #[.slice so sn sc, .agg #[.int .u8 ea, .int .i64 eb, .int .u64 ec, .int .i64 ed, .bool ee, .int .u64 ef, .int .u64 eg, .int .i64 eh, .int .u8 ei, .int .i64 ej, .int .i64 ek, .int .i64 el], .int .i64 h] W fun e w' => ∃ o n m, e = .returned (.tuple #[.slice o n m, .int .i64 zn]) ∧ HasSts w' (.slice o n m) S2 ∧ Below W.heap.size W w')
    (cY : zm = 0 → za = 0 → ∀ W v, HasRos W v (S2.map (fun s => if s.router = eb then A else g s.router)) → Calls Tryz.prog 27 #[v] W fun e w' => e = .returned (.int .i64 sz) ∧ Below W.heap.size W w')
    (hn2 : zm = 0 → za = 0 → S2.length ≤ 1000)
    (HFM : Hid (True)) (HR : Hid (R = if zm = 0 then (if za = 0 then (if 1024 < sz then (⟨S, L⟩, 8) else (⟨S2, S2.map (fun s => if s.router = eb then A else g s.router)⟩, 0)) else (⟨S, L⟩, za)) else (⟨S, L⟩, zm))) :
    Calls Tryz.prog 16 #[.agg #[.slice so sn sc, .slice lo ln lc], .agg #[.int .u8 ea, .int .i64 eb, .int .u64 ec, .int .i64 ed, .bool ee, .int .u64 ef, .int .u64 eg, .int .i64 eh, .int .u8 ei, .int .i64 ej, .int .i64 ek, .int .i64 el], .int .i64 h] w (NetIs R.1 R.2 w) := by
  have hB := Below.refl w.heap.size w
  have HS0 : Hid (∀ W : World, Below w.heap.size w W → HasSts W (.slice so sn sc) S) := fun W hb => hS.keep hb
  have HL0 : Hid (∀ W : World, Below w.heap.size w W → HasRos W (.slice lo ln lc) L) := fun W hb => hL.keep hb
  clear hS hL
  go_enter Tryz.func16, Tryz.ntmps16
  obtain ⟨Y1, hY⟩ : ∃ Y, Y = (((w.alloc (.cells #[.slice so sn sc, .slice lo ln lc] 25)).alloc (.cells #[.int .u8 ea, .int .i64 eb, .int .u64 ec, .int .i64 ed, .bool ee, .int .u64 ef, .int .u64 eg, .int .i64 eh, .int .u8 ei, .int .i64 ej, .int .i64 ek, .int .i64 el] 38)).alloc (.cells #[.slice none 0 0, .slice none 0 0] 25)) := ⟨_, rfl⟩
  have hbY : Below w.heap.size w Y1 := by rw [hY]; exact below_new (below_new (below_new (Below.refl _ _) _) _) _
  have hle : w.heap.size ≤ w.heap.size := hB.size
  obtain ⟨gn, hgn⟩ : ∃ g, g = w.heap.size := ⟨_, rfl⟩
  have rn : RowAt Y1 gn [.slice so sn sc, .slice lo ln lc] 25 := by
    have h := ((RowAt.new w [.slice so sn sc, .slice lo ln lc] 25).alloc (.cells #[.int .u8 ea, .int .i64 eb, .int .u64 ec, .int .i64 ed, .bool ee, .int .u64 ef, .int .u64 eg, .int .i64 eh, .int .u8 ei, .int .i64 ej, .int .i64 ek, .int .i64 el] 38)).alloc (.cells #[.slice none 0 0, .slice none 0 0] 25)
    rw [hgn, hY]; exact h
  have len : w.heap.size ≤ gn := by omega
  obtain ⟨ge, hge⟩ : ∃ g, g = w.heap.size + 1 := ⟨_, rfl⟩
  have re : RowAt Y1 ge [.int .u8 ea, .int .i64 eb, .int .u64 ec, .int .i64 ed, .bool ee, .int .u64 ef, .int .u64 eg, .int .i64 eh, .int .u8 ei, .int .i64 ej, .int .i64 ek, .int .i64 el] 38 := by
    have h := (RowAt.new (w.alloc (.cells #[.slice so sn sc, .slice lo ln lc] 25)) [.int .u8 ea, .int .i64 eb, .int .u64 ec, .int .i64 ed, .bool ee, .int .u64 ef, .int .u64 eg, .int .i64 eh, .int .u8 ei, .int .i64 ej, .int .i64 ek, .int .i64 el] 38).alloc (.cells #[.slice none 0 0, .slice none 0 0] 25)
    simp only [World.size_alloc] at h
    rw [hge, hY]; exact h
  have lee : w.heap.size ≤ ge := by omega
  have nene : gn ≠ ge := by omega
  obtain ⟨gz, hgz⟩ : ∃ g, g = w.heap.size + 1 + 1 := ⟨_, rfl⟩
  have rz : RowAt Y1 gz [.slice none 0 0, .slice none 0 0] 25 := by
    have h := RowAt.new ((w.alloc (.cells #[.slice so sn sc, .slice lo ln lc] 25)).alloc (.cells #[.int .u8 ea, .int .i64 eb, .int .u64 ec, .int .i64 ed, .bool ee, .int .u64 ef, .int .u64 eg, .int .i64 eh, .int .u8 ei, .int .i64 ej, .int .i64 ek, .int .i64 el] 38)) [.slice none 0 0, .slice none 0 0] 25
    simp only [World.size_alloc] at h
    rw [hgz, hY]; exact h
  have lez : w.heap.size ≤ gz := by omega
  have nenz : gn ≠ gz := by omega
  have neez : ge ≠ gz := by omega
  replace hB := below2 hB hbY
  go_upto_region 1 with fail
  rw [← hY, ← hgz, ← hge, ← hgn]
  clear hY hbY hle hgn hge hgz
  obtain ⟨n0, n1, nf⟩ := cells2 rn
  obtain ⟨e0, e1, e2, e3, e4, e5, e6, e7, e8, e9, e10, e11, ef⟩ := cells12 re
  go_wp2_with fail
  clear n0 n1 nf e0 e1 e2 e3 e4 e5 e6 e7 e8 e9 e10 e11 ef
  go_at_call 35; refine (cM _ (HS0.out _ hB)).mono ?_; rintro e w2 ⟨rfl, hb⟩
  replace rn := RowAt.below rn hb
  replace re := RowAt.below re hb
  replace rz := RowAt.below rz hb
  replace hB := below2 hB hb
  clear hb
  by_cases hzm : zm = 0
  · subst hzm
    have HR2 : Hid (R = if za = 0 then (if 1024 < sz then (⟨S, L⟩, 8) else (⟨S2, S2.map (fun s => if s.router = eb then A else g s.router)⟩, 0)) else (⟨S, L⟩, za)) := by show _ = _; rw [HR.out, if_pos rfl]
    replace cY := cY rfl
    replace hn2 := hn2 rfl
    clear cM HR
    obtain ⟨n0, n1, nf⟩ := cells2 rn
    obtain ⟨e0, e1, e2, e3, e4, e5, e6, e7, e8, e9, e10, e11, ef⟩ := cells12 re
    go_wp2_with fail
    clear n0 n1 nf e0 e1 e2 e3 e4 e5 e6 e7 e8 e9 e10 e11 ef
    go_at_call 36; refine (cF _ (HS0.out _ hB) (HL0.out _ hB)).mono ?_; rintro e w3 ⟨o4, n4, m4, o5, n5, m5, rfl, ha4, hb4, hb⟩
    replace rn := RowAt.below rn hb
    replace re := RowAt.below re hb
    replace rz := RowAt.below rz hb
    replace hB := below2 hB hb
    clear hb
    obtain ⟨Y4, hY⟩ : ∃ Y, Y = (w3.alloc (.cells #[.int .i64 F.id, .bool F.up, .slice o4 n4 m4, .slice o5 n5 m5] 51)) := ⟨_, rfl⟩
    have hbY : Below w3.heap.size w3 Y4 := by rw [hY]; exact below_new (Below.refl _ _) _
    have hle : w.heap.size ≤ w3.heap.size := hB.size
    obtain ⟨gm, hgm⟩ : ∃ g, g = w3.heap.size := ⟨_, rfl⟩
    have rm : RowAt Y4 gm [.int .i64 F.id, .bool F.up, .slice o4 n4 m4, .slice o5 n5 m5] 51 := by
      have h := RowAt.new w3 [.int .i64 F.id, .bool F.up, .slice o4 n4 m4, .slice o5 n5 m5] 51
      rw [hgm, hY]; exact h
    have lem : w.heap.size ≤ gm := by omega
    have nenm : gn ≠ gm := by have := RowAt.lt rn; omega
    have neem : ge ≠ gm := by have := RowAt.lt re; omega
    have nezm : gz ≠ gm := by have := RowAt.lt rz; omega
    replace rn := RowAt.below rn hbY
    replace re := RowAt.below re hbY
    replace rz := RowAt.below rz hbY
    replace ha4 := ha4.keep hbY
    replace hb4 := hb4.keep hbY
    replace hB := below2 hB hbY
    go_upto_region 5 with fail
    rw [← hY, ← hgm]
    clear hY hbY hle hgm
    clear cF
    obtain ⟨e0, e1, e2, e3, e4, e5, e6, e7, e8, e9, e10, e11, ef⟩ := cells12 re
    go_wp2_with fail
    clear e0 e1 e2 e3 e4 e5 e6 e7 e8 e9 e10 e11 ef
    go_at_call 37; refine (cK _).mono ?_; rintro e w5 ⟨o6, n6, m6, o7, n7, m7, rfl, ha6, hb6, hb⟩
    replace rn := RowAt.below rn hb
    replace re := RowAt.below re hb
    replace rz := RowAt.below rz hb
    replace rm := RowAt.below rm hb
    replace ha4 := ha4.keep hb
    replace hb4 := hb4.keep hb
    replace hB := below2 hB hb
    clear hb
    clear ha4 hb4
    obtain ⟨m0, m1, m2, m3, mf⟩ := cells4 rm
    obtain ⟨Y6, hY⟩ : ∃ Y, Y = ((((w5.setCell ⟨gm, 0, none⟩ (.int .i64 M.id)).setCell ⟨gm, 1, none⟩ (.bool M.up)).setCell ⟨gm, 2, none⟩ (.slice o6 n6 m6)).setCell ⟨gm, 3, none⟩ (.slice o7 n7 m7)) := ⟨_, rfl⟩
    have hG : w5.grownBy Y6 (some gm) := by rw [hY]; exact set4_gr _ _ _ _ _ _
    replace hB : Below w.heap.size w Y6 := by rw [hY]; exact set4_bl hB lem _ _ _ _
    replace ha6 := rts_apart ha6 rm hG
    replace hb6 := lks_apart hb6 rm hG
    replace rm : RowAt Y6 gm [.int .i64 M.id, .bool M.up, .slice o6 n6 m6, .slice o7 n7 m7] 51 := by rw [hY]; exact set4_row rm _ _ _ _
    replace rn := RowAt.gkeep rn hG (by intro h; injection h with h; omega)
    replace re := RowAt.gkeep re hG (by intro h; injection h with h; omega)
    replace rz := RowAt.gkeep rz hG (by intro h; injection h with h; omega)
    go_upto_region 7 with fail
    clear m0 m1 m2 m3 mf
    rw [← hY]
    clear hY hG
    clear cK HFM
    obtain ⟨m0, m1, m2, m3, mf⟩ := cells4 rm
    obtain ⟨e0, e1, e2, e3, e4, e5, e6, e7, e8, e9, e10, e11, ef⟩ := cells12 re
    go_wp2_with fail
    clear m0 m1 m2 m3 mf e0 e1 e2 e3 e4 e5 e6 e7 e8 e9 e10 e11 ef
    go_at_call 38; refine (cA _ _ _ ha6 hb6).mono ?_; rintro e w7 ⟨oa, na, ma, ob, nb, mb, rfl, ha8, hb8, hb⟩
    replace rn := RowAt.below rn hb
    replace re := RowAt.below re hb
    replace rz := RowAt.below rz hb
    replace rm := RowAt.below rm hb
    replace ha6 := ha6.keep hb
    replace hb6 := hb6.keep hb
    replace hB := below2 hB hb
    clear hb
    clear ha6 hb6
    obtain ⟨m0, m1, m2, m3, mf⟩ := cells4 rm
    obtain ⟨Y8, hY⟩ : ∃ Y, Y = ((((w7.setCell ⟨gm, 0, none⟩ (.int .i64 A.id)).setCell ⟨gm, 1, none⟩ (.bool A.up)).setCell ⟨gm, 2, none⟩ (.slice oa na ma)).setCell ⟨gm, 3, none⟩ (.slice ob nb mb)) := ⟨_, rfl⟩
    have hG : w7.grownBy Y8 (some gm) := by rw [hY]; exact set4_gr _ _ _ _ _ _
    replace hB : Below w.heap.size w Y8 := by rw [hY]; exact set4_bl hB lem _ _ _ _
    replace ha8 := rts_apart ha8 rm hG
    replace hb8 := lks_apart hb8 rm hG
    replace rm : RowAt Y8 gm [.int .i64 A.id, .bool A.up, .slice oa na ma, .slice ob nb mb] 51 := by rw [hY]; exact set4_row rm _ _ _ _
    replace rn := RowAt.gkeep rn hG (by intro h; injection h with h; omega)
    replace re := RowAt.gkeep re hG (by intro h; injection h with h; omega)
    replace rz := RowAt.gkeep rz hG (by intro h; injection h with h; omega)
    go_upto_region 8 with fail
    clear m0 m1 m2 m3 mf
    rw [← hY]
    clear hY hG
    clear cA
    by_cases hza : za = 0
    · subst hza
      have HR3 : Hid (R = if 1024 < sz then (⟨S, L⟩, 8) else (⟨S2, S2.map (fun s => if s.router = eb then A else g s.router)⟩, 0)) := by show _ = _; rw [HR2.out, if_pos rfl]
      replace cY := cY rfl
      replace hn2 := hn2 rfl
      clear HR2
      obtain ⟨n0, n1, nf⟩ := cells2 rn
      obtain ⟨e0, e1, e2, e3, e4, e5, e6, e7, e8, e9, e10, e11, ef⟩ := cells12 re
      go_wp2_with fail
      clear n0 n1 nf e0 e1 e2 e3 e4 e5 e6 e7 e8 e9 e10 e11 ef
      go_at_call 39; refine (cN _ (HS0.out _ hB)).mono ?_; rintro e w9 ⟨o8, n8, m8, rfl, hT, hb⟩
      replace rn := RowAt.below rn hb
      replace re := RowAt.below re hb
      replace rz := RowAt.below rz hb
      replace rm := RowAt.below rm hb
      replace ha8 := ha8.keep hb
      replace hb8 := hb8.keep hb
      replace hB := below2 hB hb
      clear hb
      clear cN
      have HSL : Hid (n8 = S2.length) := by
        obtain ⟨q1, q2, q3, _⟩ := Ord.HasRow.slice hT
        injection q3 with q3 q4 q5
      have hn8 : (n8 : Int) ≤ 1000 := by have := HSL.out; omega
      obtain ⟨gx, hgx⟩ : ∃ g, g = w9.heap.size := ⟨_, rfl⟩
      have hzx : Hid (w9.heap.size ≤ gx ∧ gz < gx) := ⟨by omega, by have := RowAt.lt rz; omega⟩
      obtain ⟨X, hX⟩ : ∃ X, X = w9.alloc (.cells #[.slice o8 n8 m8, .slice none 0 0] 25) := ⟨_, rfl⟩
      have hbX : Below w9.heap.size w9 X := by rw [hX]; exact below_new (Below.refl _ _) _
      have rx : RowAt X gx [.slice o8 n8 m8, .slice none 0 0] 25 := by rw [hX, hgx]; exact RowAt.new _ _ _
      have hI : Hid (CpI w9 X gx gz (.slice o8 n8 m8) (.slice none 0 0) S2 ((S2.map (fun s => if s.router = eb then A else g s.router)).take 0)) := ⟨hbX, rx, RowAt.below rz hbX, hT.keep hbX, GrowM.nil _ _, fun b e => by simp [Value.ownBlock] at e⟩
      have hT0 : Hid (0 < S2.length → ∀ b, (Value.slice o8 n8 m8).ownBlock = some b → b < gx) := fun hp b e => by
        have h' : HasRow w9 (.slice o8 n8 m8) 4 S2.length (Ord.stCs S2) := hT
        rcases h'.2 with ⟨q1, q2⟩ | ⟨a, cap, q1, q2, q3, q4, q5⟩
        · omega
        · injection q1 with q1
          subst q1
          have := (q4 hp).2
          simp only [Value.ownBlock, Option.some.injEq] at e
          omega
      have HM0 : Hid (RowsOf w9 ⟨A, .slice oa na ma, .slice ob nb mb⟩) := ⟨ha8, hb8⟩
      have HLL : Hid ((S2.map (fun s => if s.router = eb then A else g s.router)).length = n8) := by show _ = _; rw [List.length_map, HSL.out]
      have HGX : Hid (gx = w9.heap.size) := hgx
      go_upto_region 12 with fail
      rw [← hX, ← hgx]
      clear hX hbX ha8 hb8 hT rx hgx
      go_wp2_with fail
      go_loopw [65] (fun i wr => ∃ k : Nat, k ≤ n8 ∧ i = .int .i64 k ∧ ∃ o6 c6, Hid (CpI w9 wr gx gz (.slice o8 n8 m8) (.slice o6 k c6) S2 ((S2.map (fun s => if s.router = eb then A else g s.router)).take k))) (fun i wr => (n8 - Go.RowKit.intOf i).toNat)
      case atStart => exact ⟨0, by omega, rfl, none, 0, hI⟩
      case round =>
        obtain ⟨k, hk, rfl, o6, c6, HI⟩ := hrel
        clear hI
        by_cases hlt : k < n8
        · have hkz : k < S2.length := by rw [← HSL.out]; exact hlt
          obtain ⟨b1, i1, rfl, hb1, x0, x1, x2, x3⟩ := HasSts.cell HI.out.sts k hkz
          have hkm : k < (S2.map (fun s => if s.router = eb then A else g s.router)).length := by rw [HLL.out]; exact hlt
          have etk : Hid ((S2.map (fun s => if s.router = eb then A else g s.router)).take (k + 1) = (S2.map (fun s => if s.router = eb then A else g s.router)).take k ++ [if S2[k].router = eb then A else g S2[k].router]) := by show _ = _; rw [List.take_succ_eq_append_getElem hkm, List.getElem_map]
          have elk : Hid (((S2.map (fun s => if s.router = eb then A else g s.router)).take k).length = k) := by show _ = _; rw [List.length_take, HLL.out]; omega
          have HST : Hid (∀ (V w5 : World) (Q : Ro) (x y : Value), Q = (if S2[k].router = eb then A else g S2[k].router) → CpI w9 V gx gz (.slice (some ⟨b1, i1, none⟩) n8 m8) (.slice o6 k c6) S2 ((S2.map (fun s => if s.router = eb then A else g s.router)).take k) → Below V.heap.size V w5 → RowsOf w9 ⟨Q, x, y⟩ → ∃ o' c' W', (∀ ty, (Builtin.append_ #[23, 23] ty #[.slice o6 k c6, .slice (some ⟨w5.heap.size, 0, none⟩) 1 1]).run Tryz.prog (w5.alloc (.cells #[.int .i64 Q.id, .bool Q.up, x, y] 51)) = .ok (.slice o' (k + 1) c') W') ∧ RowAt W' gx [.slice (some ⟨b1, i1, none⟩) n8 m8, .slice o6 k c6] 25 ∧ Hid (CpI w9 (W'.setCell ⟨gx, 1, none⟩ (.slice o' (k + 1) c')) gx gz (.slice (some ⟨b1, i1, none⟩) n8 m8) (.slice o' (k + 1) c') S2 ((S2.map (fun s => if s.router = eb then A else g s.router)).take (k + 1)))) := fun V w5 Q x y q0 q1 q2 q3 => by
            have := q1.put hT0.out hzx.out Q x y q2 (q3.keep (below2 q1.bel q2)) (fun b hb1 hb2 => q3.elder (by have := HGX.out; omega)) (by have := elk.out; omega)
            rw [elk.out, q0, ← etk.out] at this
            rw [q0]
            exact this
          clear etk elk HLL
          obtain ⟨s, hs⟩ : ∃ s, s = S2[k] := ⟨_, rfl⟩
          rw [← hs] at x0 x1 x2 x3 HST
          clear hs
          have hki : (k : Int) < (n8 : Int) := by omega
          obtain ⟨V, hV⟩ : ∃ V, V = wr.alloc (.cells #[.int .i64 s.router, .int .u64 (s.seq : Int), .int .i64 s.time, .bool s.up] 70) := ⟨_, rfl⟩
          have hbV : Below wr.heap.size wr V := by rw [hV]; exact below_new (Below.refl _ _) _
          have rV : RowAt V wr.heap.size [.int .i64 s.router, .int .u64 (s.seq : Int), .int .i64 s.time, .bool s.up] 70 := by rw [hV]; exact RowAt.new _ _ _
          have HV : Hid (CpI w9 V gx gz (.slice (some ⟨b1, i1, none⟩) n8 m8) (.slice o6 k c6) S2 ((S2.map (fun s => if s.router = eb then A else g s.router)).take k)) := ⟨below2 HI.out.bel hbV, HI.out.rx.below hbV, HI.out.rz.below hbV, HI.out.sts.keep hbV, HI.out.grow.below hbV, HI.out.new⟩
          clear HI
          go_upto_region 15 with fail
          rw [← hV]
          clear hV hbV x0 x1 x2 x3 hb1
          generalize wr.heap.size = gs at rV ⊢
          have hbw : Below w.heap.size w V := below2 hB HV.out.bel
          have cg := cG V w9 s.router (HS0.out _ hbw) (HL0.out _ hB) HV.out.bel
          obtain ⟨t0, t1, t2, t3, tf⟩ := cells4 rV
          obtain ⟨n0, n1, nf⟩ := cells2 (RowAt.below rn HV.out.bel)
          go_wp2_with fail
          go_at_call 36; refine cg.mono ?_; rintro e w5 ⟨is, j1, j2, j3, j4, j5, j6, rfl, hrf, hb5⟩
          clear t0 t1 t2 t3 tf n0 n1 nf cg hbw
          obtain ⟨Y, hY⟩ : ∃ Y, Y = w5.alloc (.cells #[.int .i64 (g s.router).id, .bool (g s.router).up, .slice j1 j2 j3, .slice j4 j5 j6] 51) := ⟨_, rfl⟩
          have hbY : Below w5.heap.size w5 Y := by rw [hY]; exact below_new (Below.refl _ _) _
          have hb6 : Below V.heap.size V Y := below2 hb5 hbY
          have rY : RowAt Y w5.heap.size [.int .i64 (g s.router).id, .bool (g s.router).up, .slice j1 j2 j3, .slice j4 j5 j6] 51 := by rw [hY]; exact RowAt.new _ _ _
          have HRF : Hid (RowsOf w9 ⟨g s.router, .slice j1 j2 j3, .slice j4 j5 j6⟩) := hrf
          have hVw5 : V.heap.size ≤ w5.heap.size := hb5.size
          go_upto_region 16 with fail
          rw [← hY]
          clear hY hbY hb5 hrf
          generalize w5.heap.size = gr at rY hVw5 ⊢
          have hbv := below2 HV.out.bel hb6
          obtain ⟨t0, t1, t2, t3, tf⟩ := cells4 (RowAt.below rV hb6)
          obtain ⟨⟨e0, e1, e2, e3, e4, e5⟩, ⟨e6, e7, e8, e9, e10, e11⟩, ef⟩ := Msg.cells12' (RowAt.below re hbv)
          by_cases hse : s.router = eb
          · have hsb : (s.router == eb) = true := beq_iff_eq.2 hse
            obtain ⟨mm0, mm1, mm2, mm3, mmf⟩ := cells4 (RowAt.below rm hbv)
            obtain ⟨y0, y1, y2, y3, yf⟩ := cells4 rY
            obtain ⟨Z, hZ⟩ : ∃ Z, Z = (((Y.setCell ⟨gr, 0, none⟩ (.int .i64 A.id)).setCell ⟨gr, 1, none⟩ (.bool A.up)).setCell ⟨gr, 2, none⟩ (.slice oa na ma)).setCell ⟨gr, 3, none⟩ (.slice ob nb mb) := ⟨_, rfl⟩
            have rZ : RowAt Z gr [.int .i64 A.id, .bool A.up, .slice oa na ma, .slice ob nb mb] 51 := by rw [hZ]; exact set4_row rY _ _ _ _
            have hbZ : Below V.heap.size V Z := by rw [hZ]; exact set4_bl hb6 hVw5 _ _ _ _
            have hgrl : gr < Z.heap.size := RowAt.lt rZ
            go_upto_region 18 with fail
            rw [← hZ]
            clear hZ mm0 mm1 mm2 mm3 mmf y0 y1 y2 y3 yf t0 t1 t2 t3 tf e0 e1 e2 e3 e4 e5 e6 e7 e8 e9 e10 e11 ef rY hb6 hbv
            obtain ⟨o7, c7, w6, hrun, rx6, HF⟩ := HST.out V Z A _ _ (by rw [if_pos hse]) HV.out hbZ HM0.out
            obtain ⟨y0, y1, y2, y3, yf⟩ := cells4 rZ
            have rx5 := RowAt.below HV.out.rx hbZ
            obtain ⟨v0, v1, vf⟩ := cells2 rx5
            obtain ⟨u0, u1, uf⟩ := cells2 rx6
            go_upto_region 19 with fail
            obtain ⟨Q, hQ⟩ : ∃ Q, Q = w6.setCell ⟨gx, 1, none⟩ (.slice o7 (k + 1) c7) := ⟨_, rfl⟩
            rw [← hQ] at HF ⊢
            clear hQ hrun rx6 rx5 v0 v1 vf u0 u1 uf y0 y1 y2 y3 yf HST
            go_wp2_with fail
            go_roundw
            case rel => exact ⟨k + 1, by omega, by go_num, o7, c7, HF⟩
            case measure => simp [Go.RowKit.intOf]; omega
          · have hsb : (s.router == eb) = false := beq_eq_false_iff_ne.2 hse
            go_upto_region 18 with fail
            clear t0 t1 t2 t3 tf e0 e1 e2 e3 e4 e5 e6 e7 e8 e9 e10 e11 ef hbv
            obtain ⟨o7, c7, w6, hrun, rx6, HF⟩ := HST.out V Y (g s.router) _ _ (by rw [if_neg hse]) HV.out hb6 HRF.out
            obtain ⟨y0, y1, y2, y3, yf⟩ := cells4 rY
            have rx5 := RowAt.below HV.out.rx hb6
            obtain ⟨v0, v1, vf⟩ := cells2 rx5
            obtain ⟨u0, u1, uf⟩ := cells2 rx6
            go_upto_region 19 with fail
            obtain ⟨Q, hQ⟩ : ∃ Q, Q = w6.setCell ⟨gx, 1, none⟩ (.slice o7 (k + 1) c7) := ⟨_, rfl⟩
            rw [← hQ] at HF ⊢
            clear hQ hrun rx6 rx5 v0 v1 vf u0 u1 uf y0 y1 y2 y3 yf HST
            go_wp2_with fail
            go_roundw
            case rel => exact ⟨k + 1, by omega, by go_num, o7, c7, HF⟩
            case measure => simp [Go.RowKit.intOf]; omega
        · have hkn2 : k = n8 := by omega
          subst hkn2
          have hkd : decide ((k : Int) < (k : Int)) = false := decide_eq_false (by omega)
          have etk : (S2.map (fun s => if s.router = eb then A else g s.router)).take k = S2.map (fun s => if s.router = eb then A else g s.router) := List.take_of_length_le (by rw [HLL.out]; exact Nat.le_refl _)
          rw [etk] at HI
          have cy := cY wr _ HI.out.grow.has
          obtain ⟨v0, v1, vf⟩ := cells2 HI.out.rx
          clear cY cG etk
          go_wp2_with fail
          go_at_call 27; refine cy.mono ?_; rintro e w7 ⟨rfl, hb7⟩
          clear v0 v1 vf cy
          have hbl := below2 HI.out.bel hb7
          have hbw := below2 hB hbl
          have hT7 := HI.out.sts.keep hb7
          have hM7 := HI.out.grow.has.keep hb7
          replace rz := RowAt.below rz hbl
          obtain ⟨n0, n1, nf⟩ := cells2 (RowAt.below rn hbl)
          obtain ⟨v0, v1, vf⟩ := cells2 (RowAt.below HI.out.rx hb7)
          clear HI
          by_cases h10 : 1024 < sz
          · have HVV : Hid (R = (⟨S, L⟩, 8)) := by show _ = _; rw [HR3.out, if_pos h10]
            clear HR3
            obtain ⟨z0, z1, zf⟩ := cells2 rz
            go_wp2_with fail
            (try simp only [Exit.inBlock, Exit.then])
            refine bodyPost_ret (v := .tuple #[.agg #[.slice so sn sc, .slice lo ln lc], .int .i64 8]) ?_ rfl ⟨_, _, _, _, _, _, by rw [HVV.out], by rw [HVV.out]; exact sts_off (HS0.out _ hbw) rz (gset (gset (grefl _ _))), by rw [HVV.out]; exact ros_off (HL0.out _ hbw) rz (gset (gset (grefl _ _))), bset (bset hbw lez) lez⟩
            · rw [results_cell_tmp rfl]
              go_simp
          · have HVV : Hid (R = (⟨S2, S2.map (fun s => if s.router = eb then A else g s.router)⟩, 0)) := by show _ = _; rw [HR3.out, if_neg h10]
            clear HR3
            obtain ⟨z0, z1, zf⟩ := cells2 rz
            go_wp2_with fail
            (try simp only [Exit.inBlock, Exit.then])
            refine bodyPost_ret (v := .tuple #[.agg #[.slice o8 k m8, .slice o6 k c6], .int .i64 0]) ?_ rfl ⟨_, _, _, _, _, _, by rw [HVV.out], by rw [HVV.out]; exact sts_off hT7 rz (gset (gset (grefl _ _))), by rw [HVV.out]; exact ros_off hM7 rz (gset (gset (grefl _ _))), bset (bset hbw lez) lez⟩
            · rw [results_cell_tmp rfl]
              go_simp
    · have HVV : Hid (R = (⟨S, L⟩, za)) := by show _ = _; rw [HR2.out, if_neg hza]
      have hab : (za != 0) = true := bne_iff_ne.2 hza
      clear cG cN cY hn2 HR2 hza
      obtain ⟨n0, n1, nf⟩ := cells2 rn
      obtain ⟨z0, z1, zf⟩ := cells2 rz
      go_wp2_with fail
      (try simp only [Exit.inBlock, Exit.then])
      refine bodyPost_ret (v := .tuple #[.agg #[.slice so sn sc, .slice lo ln lc], .int .i64 za]) ?_ rfl ⟨_, _, _, _, _, _, by rw [HVV.out], by rw [HVV.out]; exact sts_off (HS0.out _ hB) rz (gset (gset (grefl _ _))), by rw [HVV.out]; exact ros_off (HL0.out _ hB) rz (gset (gset (grefl _ _))), bset (bset hB lez) lez⟩
      · rw [results_cell_tmp rfl]
        go_simp
  · have HVV : Hid (R = (⟨S, L⟩, zm)) := by show _ = _; rw [HR.out, if_neg hzm]
    have hmb : (zm != 0) = true := bne_iff_ne.2 hzm
    clear cM cF cG cA cN cY hn2 HR HFM hzm
    obtain ⟨n0, n1, nf⟩ := cells2 rn
    obtain ⟨z0, z1, zf⟩ := cells2 rz
    go_wp2_with fail
    (try simp only [Exit.inBlock, Exit.then])
    refine bodyPost_ret (v := .tuple #[.agg #[.slice so sn sc, .slice lo ln lc], .int .i64 zm]) ?_ rfl ⟨_, _, _, _, _, _, by rw [HVV.out], by rw [HVV.out]; exact sts_off (HS0.out _ hB) rz (gset (gset (grefl _ _))), by rw [HVV.out]; exact ros_off (HL0.out _ hB) rz (gset (gset (grefl _ _))), bset (bset hB lez) lez⟩
    · rw [results_cell_tmp rfl]
      go_simp
end Go.Proofs.YtkjhnefbcnnjlaaGreat.Nt
