/- Routes, and rows of them, that came in as arguments. -/
import Derived.Test.YtaaedgfacnaggaaTs17
import Derived.Deep.RegionHeld3
import Derived.Test.YtaaedgfacnaggaaRows
import Derived.Test.YtaaedgfacnaggaaTs01
import Derived.ProofKit
import Derived.OpenShut
import Derived.SizedLaws
import Derived.Test.YtaaedgfacnaggaaTs04
import Derived.Deep.Matrix
import Derived.Deep.Strs
import Derived.Deep.SlicePairs
set_option linter.unusedVariables false
namespace Go.Proofs.Ytaaedgfacnaggaa.Tl
open Go.RowKit
open Go.Proofs.Ytaaedgfacnaggaa.Addr (RowAt below2 below_new RowAt.lt RowAt.cell RowAt.frozen RowAt.below RowAt.drew RowAt.new RowAt.alloc cells4 cells2)
open Go.Proofs.Ytaaedgfacnaggaa.Tr (HasRts HasRts.keep)
open Go.Proofs.Ytaaedgfacnaggaa.Ct (HasAds HasAds.keep)
/-- what lies there behind the second put -/
structure Lv (w W : World) (ga gb gc : Nat) (o : Option Addr) (c : Nat) : Prop where
  ra : RowAt W ga [.int .u8 2, .int .i64 0] 35
  rb : RowAt W gb [.int .u8 1, .int .i64 3] 35
  rc : RowAt W gc [.bool false, .int .u64 0, .int .u64 176160768, .int .i64 9] 32
  hr : HasRts W (.slice o 2 c) L2
  bl : Below w.heap.size w W
theorem lv_at {w W : World} {ga gb gc : Nat} {o : Option Addr} {c : Nat} (h : Lv w W ga gb gc o c) : ∃ V, V = W := ⟨_, rfl⟩
theorem bl_at {n : Nat} {w W : World} (h : Below n w W) : ∃ V, V = W := ⟨_, rfl⟩
theorem first_len {W : World} {o : Option Addr} {c : Nat} (h : HasRts W (.slice o 2 c) L2) : ∃ b i, o = some ⟨b, i, none⟩ ∧ W.cell? ⟨b, i + 3, none⟩ = some (.int .i64 8) := by
  obtain ⟨b, i, e, _, ax⟩ := Tr.HasRts.cell h 0 (by decide)
  have := ax 3 (by decide)
  rw [Nat.zero_mul, Nat.add_zero] at this
  exact ⟨b, i, e, this⟩
theorem last_cut {W : World} {o : Option Addr} {c : Nat} (h : HasAds W (.slice o 4 c) [0, 167772160, 176160768, 184549376]) : ∃ b i, o = some ⟨b, i, none⟩ ∧ W.cell? ⟨b, i + 6 + 1, none⟩ = some (.int .u64 184549376) ∧ W.cell? ⟨b, i + 7, none⟩ = some (.int .u64 184549376) := by
  obtain ⟨b, i, e, _, _, a1⟩ := Ct.HasAds.cell h 3 (by decide)
  exact ⟨b, i, e, a1, a1⟩
theorem ac_gd : Try.prog.eqGuardType Try.prog.depth 35 = false := by kernel_rfl
theorem ac_same (k : Nat) (i : Int) (w : World) : (binOp .eql 35 (.agg #[.int .u8 (k : Int), .int .i64 i]) (.agg #[.int .u8 (k : Int), .int .i64 i])).run Try.prog w = .ok (.bool true) w := by
  have h := Msg.ac_inG k k i i w 9998
  rw [decide_eq_true rfl, decide_eq_true rfl] at h
  rw [run_eql_struct, h]
  rfl
theorem ac_one (W : World) : (binOp .eql 35 (.agg #[.int .u8 1, .int .i64 3]) (.agg #[.int .u8 1, .int .i64 3])).run Try.prog W = .ok (.bool true) W := ac_same 1 3 W
theorem ac_two (W : World) : (binOp .eql 35 (.agg #[.int .u8 2, .int .i64 0]) (.agg #[.int .u8 2, .int .i64 0])).run Try.prog W = .ok (.bool true) W := ac_same 2 0 W
def BoolIs (b : Bool) (w : World) (e : Ending) (w' : World) : Prop := e = .returned (.bool b) ∧ Below w.heap.size w w'
set_option maxHeartbeats 16000000 in
set_option maxRecDepth 20000 in
theorem lives_any (w : World) : Calls Try.prog 6 #[] w (BoolIs true w) := by
  have hB := Below.refl w.heap.size w
  go_enter Try.func6, Try.ntmps6
  obtain ⟨Y1, hY⟩ : ∃ Y, Y = (((w.alloc (.cells #[.int .u8 2, .int .i64 0] 35)).alloc (.cells #[.int .u8 1, .int .i64 3] 35)).alloc (.cells #[.bool false, .int .u64 0, .int .u64 176160768, .int .i64 9] 32)) := ⟨_, rfl⟩
  have hbY : Below w.heap.size w Y1 := by rw [hY]; exact below_new (below_new (below_new (Below.refl _ _) _) _) _
  have hle : w.heap.size ≤ w.heap.size := hB.size
  obtain ⟨ga, hga⟩ : ∃ g, g = w.heap.size := ⟨_, rfl⟩
  have ra : RowAt Y1 ga [.int .u8 2, .int .i64 0] 35 := by
    have h := ((RowAt.new w [.int .u8 2, .int .i64 0] 35).alloc (.cells #[.int .u8 1, .int .i64 3] 35)).alloc (.cells #[.bool false, .int .u64 0, .int .u64 176160768, .int .i64 9] 32)
    rw [hga, hY]; exact h
  have lea : w.heap.size ≤ ga := by omega
  obtain ⟨gb, hgb⟩ : ∃ g, g = w.heap.size + 1 := ⟨_, rfl⟩
  have rb : RowAt Y1 gb [.int .u8 1, .int .i64 3] 35 := by
    have h := (RowAt.new (w.alloc (.cells #[.int .u8 2, .int .i64 0] 35)) [.int .u8 1, .int .i64 3] 35).alloc (.cells #[.bool false, .int .u64 0, .int .u64 176160768, .int .i64 9] 32)
    simp only [World.size_alloc] at h
    rw [hgb, hY]; exact h
  have leb : w.heap.size ≤ gb := by omega
  have neab : ga ≠ gb := by omega
  obtain ⟨gc, hgc⟩ : ∃ g, g = w.heap.size + 1 + 1 := ⟨_, rfl⟩
  have rc : RowAt Y1 gc [.bool false, .int .u64 0, .int .u64 176160768, .int .i64 9] 32 := by
    have h := RowAt.new ((w.alloc (.cells #[.int .u8 2, .int .i64 0] 35)).alloc (.cells #[.int .u8 1, .int .i64 3] 35)) [.bool false, .int .u64 0, .int .u64 176160768, .int .i64 9] 32
    simp only [World.size_alloc] at h
    rw [hgc, hY]; exact h
  have lec : w.heap.size ≤ gc := by omega
  have neac : ga ≠ gc := by omega
  have nebc : gb ≠ gc := by omega
  replace hB := below2 hB hbY
  go_upto_region 3 with fail
  rw [← hY, ← hgc, ← hgb, ← hga]
  clear hY hbY hle hga hgb hgc
  obtain ⟨b0, b1, bf⟩ := cells2 rb
  obtain ⟨c0, c1, c2, c3, cf⟩ := cells4 rc
  go_wp2_with fail
  clear b0 b1 bf c0 c1 c2 c3 cf
  go_at_call 14; refine (pv1 _).mono ?_; rintro e w2 ⟨o1, c1, rfl, hr1, hb⟩
  replace ra := RowAt.below ra hb
  replace rb := RowAt.below rb hb
  replace rc := RowAt.below rc hb
  replace hB := below2 hB hb
  clear hb
  go_upto_region 4 with fail
  obtain ⟨a0, a1, af⟩ := cells2 ra
  have al := RowAt.lt ra
  have HSK : Hid (∀ W' : World, Below w2.heap.size w2 W' → W'.cell? ⟨ga, 0, none⟩ = some (.int .u8 2) ∧ W'.cell? ⟨ga, 1, none⟩ = some (.int .i64 0)) := fun W' hb => by
    obtain ⟨x0, x1, _⟩ := cells2 (RowAt.below ra hb)
    exact ⟨x0, x1⟩
  have HH : Hid (∀ W' : World, Below w2.heap.size w2 W' → HasRts W' (.slice o1 1 c1) L1) := fun W' hb => hr1.keep hb
  have HK : Hid (∀ (W' : World) (o : Option Addr) (c : Nat), Below w2.heap.size w2 W' → HasRts W' (.slice o 2 c) L2 → Lv w W' ga gb gc o c) := fun W' o c hb hr => ⟨RowAt.below ra hb, RowAt.below rb hb, RowAt.below rc hb, hr, below2 hB hb⟩
  clear ra rb rc hr1 hB
  have hbA := Below.refl w2.heap.size w2
  go_cut [4, 6] (fun a b wc => ∃ o c, a = .slice o 2 c ∧ b = .int .i64 0 ∧ Hid (Lv w wc ga gb gc o c))
  case first =>
    go_region_held3 (fun w' => w'.cell? ⟨ga, 0, none⟩ = some (.int .u8 2) ∧ w'.cell? ⟨ga, 1, none⟩ = some (.int .i64 0))
      (first
        | (refine HSK.out _ ?_
           repeat' (first | with_reducible exact hbA | with_reducible apply Below.drew))
        | go_keep)
      (first
        | (go_at_call 15
           refine (v4_any 8 _).mono ?_
           rintro e w5 ⟨rfl, hb5⟩
           have hbN : Below w2.heap.size w2 w5 := below2 (by repeat' (first | with_reducible exact hbA | with_reducible apply Below.drew)) hb5
           clear hbA
           have hbA := hbN
           clear hbN)
        | (go_at_call 14
           refine (pv2 _ _ _ (HH.out _ ?_)).mono ?_
           · repeat' (first | with_reducible exact hbA | with_reducible apply Below.drew)
           rintro e w6 ⟨o2, c2, rfl, hr2, hb6⟩
           have hbN : Below w2.heap.size w2 w6 := below2 (by repeat' (first | with_reducible exact hbA | with_reducible apply Below.drew)) hb6
           clear hbA
           have hbA := hbN
           clear hbN))
    all_goals go_wp2_with fail
    all_goals go_meet
    all_goals exact ⟨_, _, rfl, rfl, HK.out _ _ _ hbA hr2⟩
  case rest =>
    obtain ⟨o2, c2, rfl, rfl, HLV⟩ := hcut
    obtain ⟨V, hV⟩ := lv_at HLV.out
    subst hV
    obtain ⟨ra, rb, rc, hr, hB⟩ := HLV.out
    clear HLV HSK HH HK hbA a0 a1 af al
    go_wp2_with fail
    go_at_call 8; refine (lg1 _ _ _ hr).mono ?_; rintro e w21 ⟨rfl, hb⟩
    replace ra := RowAt.below ra hb
    replace rb := RowAt.below rb hb
    replace rc := RowAt.below rc hb
    replace hr := hr.keep hb
    replace hB := below2 hB hb
    clear hb
    obtain ⟨Y22, hY⟩ : ∃ Y, Y = (w21.alloc (.cells #[.bool false, .int .u64 0, .int .u64 176160768, .int .i64 9, .int .u8 1, .int .i64 3] 37)) := ⟨_, rfl⟩
    have hbY : Below w21.heap.size w21 Y22 := by rw [hY]; exact below_new (Below.refl _ _) _
    have hle : w.heap.size ≤ w21.heap.size := hB.size
    obtain ⟨gx, hgx⟩ : ∃ g, g = w21.heap.size := ⟨_, rfl⟩
    have rx : RowAt Y22 gx [.bool false, .int .u64 0, .int .u64 176160768, .int .i64 9, .int .u8 1, .int .i64 3] 37 := by
      have h := RowAt.new w21 [.bool false, .int .u64 0, .int .u64 176160768, .int .i64 9, .int .u8 1, .int .i64 3] 37
      rw [hgx, hY]; exact h
    have lex : w.heap.size ≤ gx := by omega
    have neax : ga ≠ gx := by have := RowAt.lt ra; omega
    have nebx : gb ≠ gx := by have := RowAt.lt rb; omega
    have necx : gc ≠ gx := by have := RowAt.lt rc; omega
    replace ra := RowAt.below ra hbY
    replace rb := RowAt.below rb hbY
    replace rc := RowAt.below rc hbY
    replace hr := hr.keep hbY
    replace hB := below2 hB hbY
    go_upto_region 6 with fail
    rw [← hY, ← hgx]
    clear hY hbY hle hgx
    go_wp2_with fail
    go_at_call 8; refine (lg2 _ _ _ hr).mono ?_; rintro e w23 ⟨rfl, hb⟩
    replace ra := RowAt.below ra hb
    replace rb := RowAt.below rb hb
    replace rc := RowAt.below rc hb
    replace rx := RowAt.below rx hb
    replace hr := hr.keep hb
    replace hB := below2 hB hb
    clear hb
    obtain ⟨Y24, hY⟩ : ∃ Y, Y = (w23.alloc (.cells #[.bool false, .int .u64 0, .int .u64 167772160, .int .i64 8, .int .u8 2, .int .i64 0] 37)) := ⟨_, rfl⟩
    have hbY : Below w23.heap.size w23 Y24 := by rw [hY]; exact below_new (Below.refl _ _) _
    have hle : w.heap.size ≤ w23.heap.size := hB.size
    obtain ⟨gy, hgy⟩ : ∃ g, g = w23.heap.size := ⟨_, rfl⟩
    have ry : RowAt Y24 gy [.bool false, .int .u64 0, .int .u64 167772160, .int .i64 8, .int .u8 2, .int .i64 0] 37 := by
      have h := RowAt.new w23 [.bool false, .int .u64 0, .int .u64 167772160, .int .i64 8, .int .u8 2, .int .i64 0] 37
      rw [hgy, hY]; exact h
    have ley : w.heap.size ≤ gy := by omega
    have neay : ga ≠ gy := by have := RowAt.lt ra; omega
    have neby : gb ≠ gy := by have := RowAt.lt rb; omega
    have necy : gc ≠ gy := by have := RowAt.lt rc; omega
    have nexy : gx ≠ gy := by have := RowAt.lt rx; omega
    replace ra := RowAt.below ra hbY
    replace rb := RowAt.below rb hbY
    replace rc := RowAt.below rc hbY
    replace rx := RowAt.below rx hbY
    replace hr := hr.keep hbY
    replace hB := below2 hB hbY
    go_upto_region 7 with fail
    rw [← hY, ← hgy]
    clear hY hbY hle hgy
    go_wp2_with fail
    go_at_call 8; refine (lg3 _ _ _ hr).mono ?_; rintro e w25 ⟨rfl, hb⟩
    replace ra := RowAt.below ra hb
    replace rb := RowAt.below rb hb
    replace rc := RowAt.below rc hb
    replace rx := RowAt.below rx hb
    replace ry := RowAt.below ry hb
    replace hr := hr.keep hb
    replace hB := below2 hB hb
    clear hb
    obtain ⟨Y26, hY⟩ : ∃ Y, Y = (w25.alloc (.cells #[.bool false, .int .u64 0, .int .u64 0, .int .i64 0, .int .u8 0, .int .i64 0] 37)) := ⟨_, rfl⟩
    have hbY : Below w25.heap.size w25 Y26 := by rw [hY]; exact below_new (Below.refl _ _) _
    have hle : w.heap.size ≤ w25.heap.size := hB.size
    obtain ⟨gz, hgz⟩ : ∃ g, g = w25.heap.size := ⟨_, rfl⟩
    have rz : RowAt Y26 gz [.bool false, .int .u64 0, .int .u64 0, .int .i64 0, .int .u8 0, .int .i64 0] 37 := by
      have h := RowAt.new w25 [.bool false, .int .u64 0, .int .u64 0, .int .i64 0, .int .u8 0, .int .i64 0] 37
      rw [hgz, hY]; exact h
    have lez : w.heap.size ≤ gz := by omega
    have neaz : ga ≠ gz := by have := RowAt.lt ra; omega
    have nebz : gb ≠ gz := by have := RowAt.lt rb; omega
    have necz : gc ≠ gz := by have := RowAt.lt rc; omega
    have nexz : gx ≠ gz := by have := RowAt.lt rx; omega
    have neyz : gy ≠ gz := by have := RowAt.lt ry; omega
    replace ra := RowAt.below ra hbY
    replace rb := RowAt.below rb hbY
    replace rc := RowAt.below rc hbY
    replace rx := RowAt.below rx hbY
    replace ry := RowAt.below ry hbY
    replace hr := hr.keep hbY
    replace hB := below2 hB hbY
    go_upto_region 8 with fail
    rw [← hY, ← hgz]
    clear hY hbY hle hgz
    clear rz
    obtain ⟨c0, c1, c2, c3, cf⟩ := cells4 rc
    go_wp2_with fail
    clear c0 c1 c2 c3 cf
    go_at_call 16; refine (fd _ _ _ hr).mono ?_; rintro e w27 ⟨rfl, hb⟩
    replace ra := RowAt.below ra hb
    replace rb := RowAt.below rb hb
    replace rc := RowAt.below rc hb
    replace rx := RowAt.below rx hb
    replace ry := RowAt.below ry hb
    replace hr := hr.keep hb
    replace hB := below2 hB hb
    clear hb
    obtain ⟨Y28, hY⟩ : ∃ Y, Y = (w27.alloc (.cells #[.bool false, .int .u64 0, .int .u64 176160768, .int .i64 9, .int .u8 1, .int .i64 3] 37)) := ⟨_, rfl⟩
    have hbY : Below w27.heap.size w27 Y28 := by rw [hY]; exact below_new (Below.refl _ _) _
    have hle : w.heap.size ≤ w27.heap.size := hB.size
    obtain ⟨gf, hgf⟩ : ∃ g, g = w27.heap.size := ⟨_, rfl⟩
    have rf : RowAt Y28 gf [.bool false, .int .u64 0, .int .u64 176160768, .int .i64 9, .int .u8 1, .int .i64 3] 37 := by
      have h := RowAt.new w27 [.bool false, .int .u64 0, .int .u64 176160768, .int .i64 9, .int .u8 1, .int .i64 3] 37
      rw [hgf, hY]; exact h
    have lef : w.heap.size ≤ gf := by omega
    have neaf : ga ≠ gf := by have := RowAt.lt ra; omega
    have nebf : gb ≠ gf := by have := RowAt.lt rb; omega
    have necf : gc ≠ gf := by have := RowAt.lt rc; omega
    have nexf : gx ≠ gf := by have := RowAt.lt rx; omega
    have neyf : gy ≠ gf := by have := RowAt.lt ry; omega
    replace ra := RowAt.below ra hbY
    replace rb := RowAt.below rb hbY
    replace rc := RowAt.below rc hbY
    replace rx := RowAt.below rx hbY
    replace ry := RowAt.below ry hbY
    replace hr := hr.keep hbY
    replace hB := below2 hB hbY
    go_upto_region 9 with fail
    rw [← hY, ← hgf]
    clear hY hbY hle hgf
    obtain ⟨c0, c1, c2, c3, cf⟩ := cells4 rc
    go_wp2_with fail
    clear c0 c1 c2 c3 cf
    go_at_call 17; refine (dl1 _ _ _ hr).mono ?_; rintro e w29 ⟨o3, c3, rfl, hm, hb⟩
    replace ra := RowAt.below ra hb
    replace rb := RowAt.below rb hb
    replace rc := RowAt.below rc hb
    replace rx := RowAt.below rx hb
    replace ry := RowAt.below ry hb
    replace rf := RowAt.below rf hb
    replace hr := hr.keep hb
    replace hB := below2 hB hb
    clear hb
    obtain ⟨c0, c1, c2, c3, cf⟩ := cells4 rc
    go_wp2_with fail
    clear c0 c1 c2 c3 cf
    go_at_call 17; refine (dl2 _ _ _ hm).mono ?_; rintro e w30 ⟨o4, c4, rfl, hm2, hb⟩
    replace ra := RowAt.below ra hb
    replace rb := RowAt.below rb hb
    replace rc := RowAt.below rc hb
    replace rx := RowAt.below rx hb
    replace ry := RowAt.below ry hb
    replace rf := RowAt.below rf hb
    replace hr := hr.keep hb
    replace hm := hm.keep hb
    replace hB := below2 hB hb
    clear hb
    clear rc hm
    go_wp2_with fail
    go_at_call 18; refine (ct _ _ _ hr).mono ?_; rintro e w31 ⟨o5, c5, rfl, hc, hb⟩
    replace ra := RowAt.below ra hb
    replace rb := RowAt.below rb hb
    replace rx := RowAt.below rx hb
    replace ry := RowAt.below ry hb
    replace rf := RowAt.below rf hb
    replace hr := hr.keep hb
    replace hB := below2 hB hb
    clear hb
    go_upto_region 12 with fail
    obtain ⟨a0, a1, af⟩ := cells2 ra
    have al := RowAt.lt ra
    have HSK : Hid (∀ W' : World, Below w31.heap.size w31 W' → W'.cell? ⟨ga, 0, none⟩ = some (.int .u8 2) ∧ W'.cell? ⟨ga, 1, none⟩ = some (.int .i64 0)) := fun W' hb => by
      obtain ⟨x0, x1, _⟩ := cells2 (RowAt.below ra hb)
      exact ⟨x0, x1⟩
    have HH : Hid (∀ W' : World, Below w31.heap.size w31 W' → HasRts W' (.slice o2 2 c2) L2) := fun W' hb => hr.keep hb
    have hbA := Below.refl w31.heap.size w31
    go_cut [21, 22] (fun a b wc => b = .int .i64 2 ∧ Hid (Below w31.heap.size w31 wc))
    case first =>
      clear ra rb rx ry rf hr hc hB
      go_region_held3 (fun w' => w'.cell? ⟨ga, 0, none⟩ = some (.int .u8 2) ∧ w'.cell? ⟨ga, 1, none⟩ = some (.int .i64 0))
        (first
          | (refine HSK.out _ ?_
             repeat' (first | with_reducible exact hbA | with_reducible apply Below.drew))
          | go_keep)
        (first
          | (go_at_call 15
             refine (v4_any 4 _).mono ?_
             rintro e w5 ⟨rfl, hb5⟩
             have hbN : Below w31.heap.size w31 w5 := below2 (by repeat' (first | with_reducible exact hbA | with_reducible apply Below.drew)) hb5
             clear hbA
             have hbA := hbN
             clear hbN)
          | (go_at_call 14
             refine (pv3 _ _ _ (HH.out _ ?_)).mono ?_
             · repeat' (first | with_reducible exact hbA | with_reducible apply Below.drew)
             rintro e w6 ⟨o6, c6, rfl, hr6, hb6⟩
             have hbN : Below w31.heap.size w31 w6 := below2 (by repeat' (first | with_reducible exact hbA | with_reducible apply Below.drew)) hb6
             clear hbA
             have hbA := hbN
             clear hbN))
      all_goals go_wp2_with fail
      all_goals go_meet
      all_goals exact ⟨rfl, hbA⟩
    case rest =>
      obtain ⟨rfl, HBW⟩ := hcut
      obtain ⟨V2, hV2⟩ := bl_at HBW.out
      subst hV2
      have hb := HBW.out
      clear HSK HH hbA a0 a1 af al
      replace ra := RowAt.below ra hb
      replace rb := RowAt.below rb hb
      replace rx := RowAt.below rx hb
      replace ry := RowAt.below ry hb
      replace rf := RowAt.below rf hb
      replace hr := hr.keep hb
      replace hc := hc.keep hb
      replace hB := below2 hB hb
      clear hb HBW
      have he1 := ac_one
      have he2 := ac_two
      have hgd := ac_gd
      obtain ⟨a0, a1, af⟩ := cells2 ra
      obtain ⟨b0, b1, bf⟩ := cells2 rb
      have x0 := RowAt.cell rx 0
      have x1 := RowAt.cell rx 1
      have x2 := RowAt.cell rx 2
      have x3 := RowAt.cell rx 3
      have x4 := RowAt.cell rx 4
      have x5 := RowAt.cell rx 5
      have xf := RowAt.frozen rx
      simp only [List.getElem?_cons_succ, List.getElem?_cons_zero] at x0 x1 x2 x3 x4 x5
      have y0 := RowAt.cell ry 0
      have y1 := RowAt.cell ry 1
      have y2 := RowAt.cell ry 2
      have y3 := RowAt.cell ry 3
      have y4 := RowAt.cell ry 4
      have y5 := RowAt.cell ry 5
      have yf := RowAt.frozen ry
      simp only [List.getElem?_cons_succ, List.getElem?_cons_zero] at y0 y1 y2 y3 y4 y5
      have f0 := RowAt.cell rf 0
      have f1 := RowAt.cell rf 1
      have f2 := RowAt.cell rf 2
      have f3 := RowAt.cell rf 3
      have f4 := RowAt.cell rf 4
      have f5 := RowAt.cell rf 5
      have ff := RowAt.frozen rf
      simp only [List.getElem?_cons_succ, List.getElem?_cons_zero] at f0 f1 f2 f3 f4 f5
      obtain ⟨b1, i1, rfl, q8⟩ := first_len hr
      obtain ⟨b2, i2, rfl, q61, q7⟩ := last_cut hc
      have ck := fun W h => ck2 W (some ⟨b1, i1, none⟩) c2 h
      go_wp2_with fail
      go_at_call 9; refine (ck _ hr).mono ?_; rintro e w99 ⟨rfl, hb⟩
      go_wp2_with fail
      go_ret
      exact ⟨rfl, below2 hB hb⟩
end Go.Proofs.Ytaaedgfacnaggaa.Tl
namespace Go.Proofs.Ytaaedgfacnaggaa.Addr
open Go.ChangeShapes Go.WideShapes Go.ChangeAt Go.RowKit
section
variable {H : Type} {enc : TypeId × Value → H} {W : World} {base : Nat} {spare : Nat → Bool} {held : Bool}
theorem wfi64 {n : Int} (h : Lit.wf (.int .i64 n)) : -9223372036854775808 ≤ n ∧ n ≤ 9223372036854775807 := by simpa [Lit.wf, IntKind.min, IntKind.max, IntKind.signed, IntKind.bits] using h
theorem wfu64 {n : Int} (h : Lit.wf (.int .u64 n)) : 0 ≤ n ∧ n ≤ 18446744073709551615 := by simpa [Lit.wf, IntKind.min, IntKind.max, IntKind.signed, IntKind.bits] using h
theorem num_of (h l : Int) (h1 : 0 ≤ h ∧ h ≤ 18446744073709551615) (h2 : 0 ≤ l ∧ l ≤ 18446744073709551615) : ∃ n : Nat, n < 2 ^ 128 ∧ h = (hiN n : Int) ∧ l = (loN n : Int) := by
  obtain ⟨a, rfl⟩ := Int.eq_ofNat_of_zero_le h1.1
  obtain ⟨b, rfl⟩ := Int.eq_ofNat_of_zero_le h2.1
  have := of_hilo a b (by omega)
  exact ⟨18446744073709551616 * a + b, by omega, by rw [this.1], by rw [this.2]⟩
set_option maxRecDepth 100000 in
theorem open_ad {x y : Value} {fuel : Nat} {d : DataW H × List MemPlace} (h : DataW.trod enc Try.prog W base spare held fuel 25 [x, y] = some d) : ∃ n : Nat, n < 2 ^ 128 ∧ x = .int .u64 (hiN n : Int) ∧ y = .int .u64 (loN n : Int) := by
  obtain ⟨xs, n, _, _, hlen, hxl, hfs⟩ := DataW.trod_struct Try.underlying25 h
  have g0 : DataW.trod enc Try.prog W base spare held n 23 ((([x, y] : List Value).drop 0).take (Try.prog.cellsOf 23)) = xs[0]? := hfs 0 _ rfl
  have g1 : DataW.trod enc Try.prog W base spare held n 23 ((([x, y] : List Value).drop 1).take (Try.prog.cellsOf 23)) = xs[1]? := hfs 1 _ rfl
  have hx2 : xs.length = 2 := hxl
  rw [List.getElem?_eq_getElem (by omega)] at g0 g1
  rw [show Try.prog.cellsOf 23 = 1 from by kernel_rfl] at g0 g1
  obtain ⟨a, e2, _, hw⟩ := DataW.trod_int Try.underlying23 g0
  obtain ⟨b, e3, _, hw2⟩ := DataW.trod_int Try.underlying23 g1
  obtain ⟨m, hm, r1, r2⟩ := num_of a b (wfu64 hw) (wfu64 hw2)
  have e2' : x = .int .u64 a := by injection e2
  have e3' : y = .int .u64 b := by injection e3
  exact ⟨m, hm, by rw [e2', r1], by rw [e3', r2]⟩
set_option maxRecDepth 100000 in
theorem open_addr {v : Value} {d : DataW H} {ps : List MemPlace} {r : Reach} {b0 : Nat} (hval : Value.okWide Try.prog W r b0 25 v) (h : DataW.Trod enc Try.prog W base spare held 25 v d ps) : ∃ n : Nat, v = adV n ∧ n < 2 ^ 128 := by
  obtain ⟨cs, rfl, hsz⟩ := okWide_struct Try.underlying25 hval
  obtain ⟨fuel, hf⟩ := h
  rw [show Try.prog.cellsOf 25 = 2 from by kernel_rfl] at hsz
  obtain ⟨x, y, rfl⟩ : ∃ x y, cs = #[x, y] := by
    obtain ⟨l⟩ := cs
    match l, hsz with
    | [x, y], _ => exact ⟨x, y, rfl⟩
  obtain ⟨n, hn, rfl, rfl⟩ := open_ad hf
  exact ⟨n, rfl, hn⟩
end
end Go.Proofs.Ytaaedgfacnaggaa.Addr
namespace Go.Proofs.Ytaaedgfacnaggaa.Msg
open Go.ChangeShapes Go.WideShapes Go.ChangeAt Go.RowKit
open Go.Proofs.Ytaaedgfacnaggaa.Addr (Pf hiN loN wfi64 open_ad)
section
variable {H : Type} {enc : TypeId × Value → H} {W : World} {base : Nat} {spare : Nat → Bool} {held : Bool}
theorem wfu8 {n : Int} (h : Lit.wf (.int .u8 n)) : 0 ≤ n ∧ n ≤ 255 := by simpa [Lit.wf, IntKind.min, IntKind.max, IntKind.signed, IntKind.bits] using h
set_option maxRecDepth 100000 in
theorem open_ac2 {x y : Value} {fuel : Nat} {d : DataW H × List MemPlace} (h : DataW.trod enc Try.prog W base spare held fuel 35 [x, y] = some d) : ∃ a : Ac, x = .int .u8 (a.k : Int) ∧ y = .int .i64 a.i ∧ FitA a := by
  obtain ⟨xs, n, _, _, hlen, hxl, hfs⟩ := DataW.trod_struct Try.underlying35 h
  have g0 : DataW.trod enc Try.prog W base spare held n 33 ((([x, y] : List Value).drop 0).take (Try.prog.cellsOf 33)) = xs[0]? := hfs 0 _ rfl
  have g1 : DataW.trod enc Try.prog W base spare held n 3 ((([x, y] : List Value).drop 1).take (Try.prog.cellsOf 3)) = xs[1]? := hfs 1 _ rfl
  have hx2 : xs.length = 2 := hxl
  rw [List.getElem?_eq_getElem (by omega)] at g0 g1
  rw [show Try.prog.cellsOf 33 = 1 from by kernel_rfl] at g0
  rw [show Try.prog.cellsOf 3 = 1 from by kernel_rfl] at g1
  obtain ⟨a, e2, _, hw⟩ := DataW.trod_int Try.underlying33 g0
  obtain ⟨b, e3, _, hw2⟩ := DataW.trod_int Try.underlying3 g1
  have e2' : x = .int .u8 a := by injection e2
  have e3' : y = .int .i64 b := by injection e3
  have q := wfu8 hw
  obtain ⟨k, rfl⟩ := Int.eq_ofNat_of_zero_le q.1
  exact ⟨⟨k, b⟩, e2', e3', q.2, wfi64 hw2⟩
set_option maxRecDepth 100000 in
theorem open_pf4 {s c f o : Value} {fuel : Nat} {d : DataW H × List MemPlace} (h : DataW.trod enc Try.prog W base spare held fuel 32 [s, c, f, o] = some d) : ∃ p : Pf, s = .bool p.six ∧ c = .int .u64 (hiN p.n : Int) ∧ f = .int .u64 (loN p.n : Int) ∧ o = .int .i64 p.len ∧ (-9223372036854775808 ≤ p.len ∧ p.len ≤ 9223372036854775807) ∧ p.n < 2 ^ 128 := by
  obtain ⟨xs, n, _, _, hlen, hxl, hfs⟩ := DataW.trod_struct Try.underlying32 h
  have g0 : DataW.trod enc Try.prog W base spare held n 4 ((([s, c, f, o] : List Value).drop 0).take (Try.prog.cellsOf 4)) = xs[0]? := hfs 0 _ rfl
  have g1 : DataW.trod enc Try.prog W base spare held n 25 ((([s, c, f, o] : List Value).drop 1).take (Try.prog.cellsOf 25)) = xs[1]? := hfs 1 _ rfl
  have g2 : DataW.trod enc Try.prog W base spare held n 3 ((([s, c, f, o] : List Value).drop 3).take (Try.prog.cellsOf 3)) = xs[2]? := hfs 2 _ rfl
  have hx3 : xs.length = 3 := hxl
  rw [List.getElem?_eq_getElem (by omega)] at g0 g1 g2
  rw [show Try.prog.cellsOf 4 = 1 from by kernel_rfl] at g0
  rw [show Try.prog.cellsOf 25 = 2 from by kernel_rfl] at g1
  rw [show Try.prog.cellsOf 3 = 1 from by kernel_rfl] at g2
  obtain ⟨ob, e3, _⟩ := DataW.trod_bool Try.underlying4 g0
  obtain ⟨m, hm, rfl, rfl⟩ := open_ad (x := c) (y := f) g1
  obtain ⟨fu, e2, _, hw⟩ := DataW.trod_int Try.underlying3 g2
  have e2' : o = .int .i64 fu := by injection e2
  have e3' : s = .bool ob := by injection e3
  exact ⟨⟨ob, m, fu⟩, e3', rfl, rfl, e2', wfi64 hw, hm⟩
end
end Go.Proofs.Ytaaedgfacnaggaa.Msg
namespace Go.Proofs.Ytaaedgfacnaggaa.Lk
open Go.ChangeShapes Go.WideShapes Go.ChangeAt Go.RowKit
section
variable {H : Type} {enc : TypeId × Value → H} {W : World} {base : Nat} {spare : Nat → Bool} {held : Bool}
theorem spot_of {W : World} {a : Addr} {v : Value} (h : W.cell? a = some v) : a.spot = none ∧ a.block < W.heap.size := by
  refine ⟨World.cell?_spot h, ?_⟩
  rcases Nat.lt_or_ge a.block W.heap.size with h' | h'
  · exact h'
  · simp [World.cell?, Array.getElem?_eq_none h'] at h
theorem row_of {a : Addr} {len cap sz : Nat} {cs : List Value} (hsz : 0 < sz) (hl : len ≤ cap) (hm : cap ≤ maxLen) (hlen : cs.length = len * sz) (h : ∀ j, j < len * sz → W.cell? (a.add j) = cs[j]?) : HasRow W (.slice (some a) len cap) sz len cs := by
  refine ⟨hlen, .inr ⟨a, cap, rfl, hl, by unfold maxLen at hm; exact hm, fun hn => ?_, h⟩⟩
  have h0 := h 0 (Nat.mul_pos hn hsz)
  rw [List.getElem?_eq_getElem (by rw [hlen]; exact Nat.mul_pos hn hsz)] at h0
  have := spot_of h0
  simpa [Addr.add] using this
/-- cells of a list of rows of m cells each -/
theorem flat_get {α : Type} (f : α → List Value) (m : Nat) (hm : 0 < m) (hf : ∀ x, (f x).length = m) : ∀ (l : List α) (j : Nat) (hj : j < l.length * m), (l.flatMap f)[j]? = (f (l[j / m]'(Nat.div_lt_of_lt_mul (by rw [Nat.mul_comm]; exact hj))))[j % m]? := by
  intro l
  induction l with
  | nil => intro j hj; simp at hj
  | cons x t ih =>
    intro j hj
    rw [List.flatMap_cons]
    by_cases h : j < m
    · rw [List.getElem?_append_left (by rw [hf]; exact h)]
      have e1 : j / m = 0 := Nat.div_eq_of_lt h
      have e2 : j % m = j := Nat.mod_eq_of_lt h
      simp only [e1, e2, List.getElem_cons_zero]
    · have h' : m ≤ j := by omega
      rw [List.getElem?_append_right (by rw [hf]; exact h'), hf]
      have hj2 : j - m < t.length * m := by rw [List.length_cons, Nat.add_mul, Nat.one_mul] at hj; omega
      rw [ih (j - m) hj2]
      have e1 : j / m = (j - m) / m + 1 := by rw [Nat.div_eq_sub_div hm h']
      have e2 : j % m = (j - m) % m := Nat.mod_eq_sub_mod h'
      simp only [e1, e2, List.getElem_cons_succ]
end
end Go.Proofs.Ytaaedgfacnaggaa.Lk
namespace Go.Proofs.Ytaaedgfacnaggaa.Tr
open Go.ChangeShapes Go.WideShapes Go.ChangeAt Go.RowKit
open Go.Proofs.Ytaaedgfacnaggaa.Msg (open_pf4 open_ac2)
open Go.Proofs.Ytaaedgfacnaggaa.Lk (row_of flat_get hasRow_nil)
section
variable {H : Type} {enc : TypeId × Value → H} {W : World} {base : Nat} {spare : Nat → Bool} {held : Bool}
set_option maxRecDepth 100000 in
theorem open_rt6 {c0 c1 c2 c3 c4 c5 : Value} {fuel : Nat} {d : DataW H × List MemPlace} (hf : DataW.trod enc Try.prog W base spare held fuel 37 [c0, c1, c2, c3, c4, c5] = some d) : ∃ r : Rt, [c0, c1, c2, c3, c4, c5] = rtC r ∧ FitR r := by
  obtain ⟨xs, n, _, _, hlen, hxl, hfs⟩ := DataW.trod_struct Try.underlying37 hf
  have g0 : DataW.trod enc Try.prog W base spare held n 32 ((([c0, c1, c2, c3, c4, c5] : List Value).drop 0).take (Try.prog.cellsOf 32)) = xs[0]? := hfs 0 _ rfl
  have g1 : DataW.trod enc Try.prog W base spare held n 35 ((([c0, c1, c2, c3, c4, c5] : List Value).drop 4).take (Try.prog.cellsOf 35)) = xs[1]? := hfs 1 _ rfl
  have hx2 : xs.length = 2 := hxl
  rw [List.getElem?_eq_getElem (by omega)] at g0 g1
  rw [show Try.prog.cellsOf 32 = 4 from by kernel_rfl] at g0
  rw [show Try.prog.cellsOf 35 = 2 from by kernel_rfl] at g1
  obtain ⟨p, r4, r5, r6, r7, b1, b2⟩ := open_pf4 (s := c0) (c := c1) (f := c2) (o := c3) g0
  obtain ⟨a, r8, r9, fa⟩ := open_ac2 (x := c4) (y := c5) g1
  subst r4 r5 r6 r7 r8 r9
  exact ⟨⟨p, a⟩, rfl, ⟨b1, b2⟩, fa⟩
set_option maxRecDepth 100000 in
theorem open_routes {v : Value} {fuel : Nat} {x : DataW H × List MemPlace} (h : DataW.trod enc Try.prog W base spare held fuel 22 [v] = some x) : ∃ l : List Rt, HasRts W v l ∧ ∀ s ∈ l, FitR s := by
  rcases Go.Deep.open_slice Try.underlying22 h with ⟨hcs, _⟩ | ⟨a, l, c, m, n, D, Pl, hcs, _, hl, hm, hmm, _, hx⟩
  · injection hcs with e; subst e
    exact ⟨[], hasRow_nil _ _, by simp⟩
  · injection hcs with e; subst e
    have hlm : l ≤ m := by rw [hmm]; split <;> omega
    have hA : ∀ i, ∃ p : Rt, i < l → (∀ j, j < 6 → W.cell? (a.add (i * 6 + j)) = (rtC p)[j]?) ∧ FitR p := fun i => by
      by_cases hi : i < l
      · obtain ⟨cs', h1, h2⟩ := hx i (by omega)
        rw [show Try.prog.cellsOf 37 = 6 from by kernel_rfl] at h1
        obtain ⟨_, hlen, hcell⟩ := World.cells?_some h1
        obtain ⟨c0, c1, c2, c3, c4, c5, rfl⟩ : ∃ c0 c1 c2 c3 c4 c5, cs' = [c0, c1, c2, c3, c4, c5] := by
          match cs', hlen with
          | [c0, c1, c2, c3, c4, c5], _ => exact ⟨c0, c1, c2, c3, c4, c5, rfl⟩
        obtain ⟨s, es, fs⟩ := open_rt6 h2
        refine ⟨s, fun _ => ⟨fun j hj => ?_, fs⟩⟩
        rw [← es]
        have := hcell j hj
        rw [Go.Deep.add_add] at this
        rw [this]
      · exact ⟨⟨⟨false, 0, 0⟩, ⟨0, 0⟩⟩, fun h => absurd h hi⟩
    obtain ⟨F, hF⟩ := Classical.axiomOfChoice hA
    refine ⟨(List.range l).map F, ?_, fun p hp => ?_⟩
    · unfold HasRts
      rw [List.length_map, List.length_range]
      refine row_of (by decide) hl hm (by rw [rtCs_len]; simp) (fun j hj => ?_)
      have hj2 : j / 6 < l := by omega
      obtain ⟨hc, _⟩ := hF (j / 6) hj2
      show _ = (((List.range l).map F).flatMap rtC)[j]?
      rw [flat_get rtC 6 (by decide) (fun x => rfl) _ j (by simp; omega)]
      simp only [List.getElem_map, List.getElem_range]
      rw [← hc (j % 6) (by omega)]
      congr 2
      omega
    · obtain ⟨i, hi, rfl⟩ := List.mem_map.1 hp
      exact (hF i (List.mem_range.1 hi)).2
end
end Go.Proofs.Ytaaedgfacnaggaa.Tr
