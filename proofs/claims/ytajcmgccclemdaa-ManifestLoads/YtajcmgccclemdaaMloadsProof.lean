/- For every disk and manifest: spoorlaw06.ManifestLoads returns true, and changes nothing that was there. No condition. -/
import Derived.Test.YtajcmgccclemdaaRows
import Derived.Test.YtajcmgccclemdaaManRefSave
import Derived.Test.YtajcmgccclemdaaManSame
import Derived.Test.YtajcmgccclemdaaManLives
import Derived.Test.YtajcmgccclemdaaManOpen
import Derived.Test.YtajcmgccclemdaaDiskSame
import Derived.Test.YtajcmgccclemdaaDiskOpen2
import Derived.ProofKit
import Derived.OpenShut
import Derived.ShutString
import Derived.SizedLaws
set_option linter.unusedVariables false
namespace Go.Proofs.Ytajcmgccclemdaa
namespace manifestLoads
open Go.ChangeShapes Go.WideShapes Go.ChangeAt Go.RowKit
open Go.ChangeMaps (open_string shut_string)
open Go.Proofs.Ytajcmgccclemdaa.Page
open Go.Proofs.Ytajcmgccclemdaa.Man
open Go.Proofs.Ytajcmgccclemdaa.Disk (VDk back_of Back Dk HasDk Fits VBox HasStrs HasPuts rcopy_any rsame_any outD okB ok_of Ok)

theorem own : ownKnob Try.prog.godebug = none := by kernel_rfl
theorem laidOut : laidOutB Try.prog = true := by kernel_rfl
theorem save_small {d : Dk} {m : ManT} (h : d.secs.length ≤ 8796093022208 ∧ d.cache.length ≤ 5864062014805) : (saveM d m).1.secs.length ≤ 10000000000000 ∧ (saveM d m).1.cache.length ≤ 10000000000000 := by
  unfold saveM
  split
  · rename_i hk
    have ho := ok_of hk
    split
    · split
      · have h1 := Disk.write_ok ho ((m.1 % 2 : Nat) : Int) (sectL m)
        rw [Disk.outD_ok h1]
        have h2 := Disk.flush_ok h1
        have := h2.many; have := h2.few
        omega
      · have h1 := Disk.write_ok ho ((m.1 % 2 : Nat) : Int) (sectL m)
        have := h1.many; have := h1.few
        omega
    · simp only; omega
  · exact ⟨Nat.zero_le _, Nat.zero_le _⟩
theorem step_len {a : ManT} {s : List UInt8} (ha : a.2.length ≤ 8) : (stepM a (getM s)).2.length ≤ 8 := by
  unfold stepM
  split
  · rename_i hh; exact (okM_parts (get_ok hh.1).1).2.1
  · exact ha
theorem load_len (d : Dk) : (loadM d).1.2.length ≤ 8 := by
  unfold loadM
  split
  · split
    · split
      · simp
      · exact step_len (step_len (by simp))
    · simp
  · simp
set_option maxHeartbeats 8000000 in
set_option maxRecDepth 20000 in
theorem core (D0 d1 : Dk) (M0 ml : ManT) (y1 yl : Int) (so co uo : Option Addr) (sc cc uc : Nat) (w : World) (hs0 : HasStrs w (.slice so D0.secs.length sc) D0.secs) (hc0 : HasPuts w (.slice co D0.cache.length cc) D0.cache) (hm0 : HasParts w (.slice uo M0.2.length uc) M0.2)
    (ccp : ∀ W v, HasDk W v D0 → Calls Try.prog 17 #[v] W fun e w' => ∃ so sc co cc, e = .returned (.agg #[.slice so D0.secs.length sc, .slice co D0.cache.length cc, .int .i64 D0.fuse, .bool D0.off]) ∧ HasStrs w' (.slice so D0.secs.length sc) D0.secs ∧ HasPuts w' (.slice co D0.cache.length cc) D0.cache ∧ Below W.heap.size W w')
    (cld : ∀ W v, HasDk W v D0 → Calls Try.prog 18 #[v] W fun e w' => ∃ xo xc, e = .returned (.tuple #[.agg #[.int .u64 (ml.1 : Int), .slice xo ml.2.length xc], .int .i64 yl]) ∧ HasParts w' (.slice xo ml.2.length xc) ml.2 ∧ Below W.heap.size W w')
    (crl : ∀ W v, HasDk W v D0 → Calls Try.prog 19 #[v] W fun e w' => ∃ xo xc, e = .returned (.tuple #[.agg #[.int .u64 (ml.1 : Int), .slice xo ml.2.length xc], .int .i64 yl]) ∧ HasParts w' (.slice xo ml.2.length xc) ml.2 ∧ Below W.heap.size W w')
    (csv : ∀ W v u, HasDk W v D0 → HasParts W u M0.2 → Calls Try.prog 20 #[v, .agg #[.int .u64 (M0.1 : Int), u]] W (Back d1 y1 W))
    (crs : ∀ W v u, HasDk W v D0 → HasParts W u M0.2 → Calls Try.prog 21 #[v, .agg #[.int .u64 (M0.1 : Int), u]] W (Back d1 y1 W))
    (cms : ∀ W v u, HasParts W v ml.2 → HasParts W u ml.2 → Calls Try.prog 16 #[.agg #[.int .u64 (ml.1 : Int), v], .agg #[.int .u64 (ml.1 : Int), u]] W fun e w' => e = .returned (.bool true) ∧ Below W.heap.size W w')
    (cs0 : ∀ W v u, HasDk W v D0 → HasDk W u D0 → Calls Try.prog 22 #[v, u] W fun e w' => e = .returned (.bool true) ∧ Below W.heap.size W w')
    (cs1 : ∀ W v u, HasDk W v d1 → HasDk W u d1 → Calls Try.prog 22 #[v, u] W fun e w' => e = .returned (.bool true) ∧ Below W.heap.size W w') :
    Calls Try.prog 4 #[.agg #[.slice so D0.secs.length sc, .slice co D0.cache.length cc, .int .i64 D0.fuse, .bool D0.off], .agg #[.int .u64 (M0.1 : Int), .slice uo M0.2.length uc]] w fun e w' => e = .returned (.bool true) ∧ Below w.heap.size w w' := by
  obtain ⟨X, hX⟩ : ∃ X, X = (w.alloc (.cells #[.slice so D0.secs.length sc, .slice co D0.cache.length cc, .int .i64 D0.fuse, .bool D0.off] 38)).alloc (.cells #[.int .u64 (M0.1 : Int), .slice uo M0.2.length uc] 25) := ⟨_, rfl⟩
  have hW : Below w.heap.size w X := by rw [hX]; exact ((Below.refl _ w).alloc (Nat.le_refl _) _).alloc (by simp) _
  have V0 : Hid (VDk X w.heap.size D0) := by rw [hX]; exact (VDk.new hs0 hc0).below ((Below.refl _ _).alloc (Nat.le_refl _) _)
  have M1 : Hid (MBox X (w.heap.size + 1) M0.1 (.slice uo M0.2.length uc)) := by
    have := RowAt.new (w.alloc (.cells #[.slice so D0.secs.length sc, .slice co D0.cache.length cc, .int .i64 D0.fuse, .bool D0.off] 38)) [.int .u64 (M0.1 : Int), .slice uo M0.2.length uc] 25
    rw [World.size_alloc, List.toArray, ← hX] at this
    exact this
  have HM : Hid (∀ W, Below w.heap.size w W → HasParts W (.slice uo M0.2.length uc) M0.2) := fun W hb => hm0.keep hb
  clear hs0 hc0 hm0
  go_enter Try.func4, Try.ntmps4
  go_upto_region 1 with fail
  rw [← hX]
  clear hX
  obtain ⟨s1, s2, s3, s4, vb, hs, hc⟩ := V0.out
  obtain ⟨q0, q1, q2, q3, qf⟩ := vb.cells
  go_wp2_with fail
  go_at_call 17; refine (ccp _ _ ⟨_, _, rfl, hs, hc⟩).mono ?_; rintro e w1 ⟨g1, g2, g3, g4, rfl, hs1, hc1, hb1⟩
  obtain ⟨X1, hX1⟩ : ∃ X, X = w1.alloc (.cells #[.slice g1 D0.secs.length g2, .slice g3 D0.cache.length g4, .int .i64 D0.fuse, .bool D0.off] 38) := ⟨_, rfl⟩
  obtain ⟨bg, hbg⟩ : ∃ b, b = w1.heap.size := ⟨_, rfl⟩
  have hbX : Below w1.heap.size w1 X1 := by rw [hX1]; exact (Below.refl _ _).alloc (Nat.le_refl _) _
  have hb := below2 hb1 hbX
  have VG : Hid (VDk X1 bg D0) := by rw [hX1, hbg]; exact VDk.new hs1 hc1
  have V0 : Hid (VDk X1 w.heap.size D0) := V0.out.below hb
  have M1 : Hid (MBox X1 (w.heap.size + 1) M0.1 (.slice uo M0.2.length uc)) := RowAt.below M1.out hb
  have hW := below2 hW hb
  go_upto_region 2 with fail
  rw [← hX1, ← hbg]
  clear hX1 hbg hbX hb hb1 hs1 hc1 hs hc vb q0 q1 q2 q3 qf ccp
  obtain ⟨s1, s2, s3, s4, vb, hs, hc⟩ := VG.out
  obtain ⟨q0, q1, q2, q3, qf⟩ := vb.cells
  go_wp2_with fail
  go_at_call 18; refine (cld _ _ ⟨_, _, rfl, hs, hc⟩).mono ?_; rintro e w2 ⟨xo, xc, rfl, hxp, hb1⟩
  obtain ⟨X2, hX2⟩ : ∃ X, X = w2.alloc (.cells #[.int .u64 (ml.1 : Int), .slice xo ml.2.length xc] 25) := ⟨_, rfl⟩
  obtain ⟨bx, hbx⟩ : ∃ b, b = w2.heap.size := ⟨_, rfl⟩
  have hbX : Below w2.heap.size w2 X2 := by rw [hX2]; exact (Below.refl _ _).alloc (Nat.le_refl _) _
  have hb := below2 hb1 hbX
  have MX : Hid (MBox X2 bx ml.1 (.slice xo ml.2.length xc)) := by rw [hX2, hbx]; exact RowAt.new w2 [_, _] _
  have hxp := hxp.keep hbX
  have VG : Hid (VDk X2 bg D0) := VG.out.below hb
  have V0 : Hid (VDk X2 w.heap.size D0) := V0.out.below hb
  have M1 : Hid (MBox X2 (w.heap.size + 1) M0.1 (.slice uo M0.2.length uc)) := RowAt.below M1.out hb
  have hW := below2 hW hb
  go_upto_region 3 with fail
  rw [← hX2, ← hbx]
  clear hX2 hbx hbX hb hb1 hs hc vb q0 q1 q2 q3 qf cld
  obtain ⟨s1, s2, s3, s4, vb, hs, hc⟩ := V0.out
  obtain ⟨q0, q1, q2, q3, qf⟩ := vb.cells
  go_wp2_with fail
  go_at_call 19; refine (crl _ _ ⟨_, _, rfl, hs, hc⟩).mono ?_; rintro e w3 ⟨yo, yc, rfl, hyp, hb1⟩
  obtain ⟨X3, hX3⟩ : ∃ X, X = w3.alloc (.cells #[.int .u64 (ml.1 : Int), .slice yo ml.2.length yc] 25) := ⟨_, rfl⟩
  obtain ⟨by', hby⟩ : ∃ b, b = w3.heap.size := ⟨_, rfl⟩
  have hbX : Below w3.heap.size w3 X3 := by rw [hX3]; exact (Below.refl _ _).alloc (Nat.le_refl _) _
  have hb := below2 hb1 hbX
  have MY : Hid (MBox X3 by' ml.1 (.slice yo ml.2.length yc)) := by rw [hX3, hby]; exact RowAt.new w3 [_, _] _
  have hyp := hyp.keep hbX
  have hxp := hxp.keep hb
  have MX : Hid (MBox X3 bx ml.1 (.slice xo ml.2.length xc)) := RowAt.below MX.out hb
  have VG : Hid (VDk X3 bg D0) := VG.out.below hb
  have V0 : Hid (VDk X3 w.heap.size D0) := V0.out.below hb
  have M1 : Hid (MBox X3 (w.heap.size + 1) M0.1 (.slice uo M0.2.length uc)) := RowAt.below M1.out hb
  have hW := below2 hW hb
  go_upto_region 4 with fail
  rw [← hX3, ← hby]
  clear hX3 hby hbX hb hb1 hs hc vb q0 q1 q2 q3 qf crl
  obtain ⟨s1, s2, s3, s4, vb, hs, hc⟩ := VG.out
  obtain ⟨q0, q1, q2, q3, qf⟩ := vb.cells
  obtain ⟨m0, m1⟩ := MBox.cells M1.out
  unfold Back at csv crs
  go_wp2_with fail
  go_at_call 20; refine (csv _ _ _ ⟨_, _, rfl, hs, hc⟩ (HM.out _ hW)).mono ?_; rintro e w4 ⟨a1, a2, a3, a4, rfl, hs1, hc1, hb1⟩
  obtain ⟨X4, hX4⟩ : ∃ X, X = w4.alloc (.cells #[.slice a1 d1.secs.length a2, .slice a3 d1.cache.length a4, .int .i64 d1.fuse, .bool d1.off] 38) := ⟨_, rfl⟩
  obtain ⟨ba, hba⟩ : ∃ b, b = w4.heap.size := ⟨_, rfl⟩
  have hbX : Below w4.heap.size w4 X4 := by rw [hX4]; exact (Below.refl _ _).alloc (Nat.le_refl _) _
  have hb := below2 hb1 hbX
  have VA : Hid (VDk X4 ba d1) := by rw [hX4, hba]; exact VDk.new hs1 hc1
  have hyp := hyp.keep hb
  have hxp := hxp.keep hb
  have MY : Hid (MBox X4 by' ml.1 (.slice yo ml.2.length yc)) := RowAt.below MY.out hb
  have MX : Hid (MBox X4 bx ml.1 (.slice xo ml.2.length xc)) := RowAt.below MX.out hb
  have VG : Hid (VDk X4 bg D0) := VG.out.below hb
  have V0 : Hid (VDk X4 w.heap.size D0) := V0.out.below hb
  have M1 : Hid (MBox X4 (w.heap.size + 1) M0.1 (.slice uo M0.2.length uc)) := RowAt.below M1.out hb
  have hW := below2 hW hb
  go_upto_region 5 with fail
  rw [← hX4, ← hba]
  clear hX4 hba hbX hb hb1 hs hc vb q0 q1 q2 q3 qf m0 m1 csv hs1 hc1
  obtain ⟨s1, s2, s3, s4, vb, hs, hc⟩ := V0.out
  obtain ⟨q0, q1, q2, q3, qf⟩ := vb.cells
  obtain ⟨m0, m1⟩ := MBox.cells M1.out
  go_wp2_with fail
  go_at_call 21; refine (crs _ _ _ ⟨_, _, rfl, hs, hc⟩ (HM.out _ hW)).mono ?_; rintro e w5 ⟨e1, e2, e3, e4, rfl, hs1, hc1, hb1⟩
  obtain ⟨X5, hX5⟩ : ∃ X, X = w5.alloc (.cells #[.slice e1 d1.secs.length e2, .slice e3 d1.cache.length e4, .int .i64 d1.fuse, .bool d1.off] 38) := ⟨_, rfl⟩
  obtain ⟨be, hbe⟩ : ∃ b, b = w5.heap.size := ⟨_, rfl⟩
  have hbX : Below w5.heap.size w5 X5 := by rw [hX5]; exact (Below.refl _ _).alloc (Nat.le_refl _) _
  have hb := below2 hb1 hbX
  have VE : Hid (VDk X5 be d1) := by rw [hX5, hbe]; exact VDk.new hs1 hc1
  have VA : Hid (VDk X5 ba d1) := VA.out.below hb
  have hyp := hyp.keep hb
  have hxp := hxp.keep hb
  have MY : Hid (MBox X5 by' ml.1 (.slice yo ml.2.length yc)) := RowAt.below MY.out hb
  have MX : Hid (MBox X5 bx ml.1 (.slice xo ml.2.length xc)) := RowAt.below MX.out hb
  have VG : Hid (VDk X5 bg D0) := VG.out.below hb
  have V0 : Hid (VDk X5 w.heap.size D0) := V0.out.below hb
  have hW := below2 hW hb
  go_upto_region 6 with fail
  rw [← hX5, ← hbe]
  clear hX5 hbe hbX hb hb1 hs hc vb q0 q1 q2 q3 qf m0 m1 crs hs1 hc1 M1 HM
  go_wp2_with fail
  go_at_call 13; refine (Man.lives_any _).mono ?_; rintro e w6 ⟨rfl, hb⟩
  have VE : Hid (VDk w6 be d1) := VE.out.below hb
  have VA : Hid (VDk w6 ba d1) := VA.out.below hb
  have VG : Hid (VDk w6 bg D0) := VG.out.below hb
  have V0 : Hid (VDk w6 w.heap.size D0) := V0.out.below hb
  have hyp := hyp.keep hb
  have hxp := hxp.keep hb
  obtain ⟨m0, m1⟩ := MBox.cells (RowAt.below MX.out hb)
  obtain ⟨n0, n1⟩ := MBox.cells (RowAt.below MY.out hb)
  have hW := below2 hW hb
  clear hb MX MY
  go_wp2_with fail
  go_at_call 16; refine (cms _ _ _ hxp hyp).mono ?_; rintro e w7 ⟨rfl, hb⟩
  have VE : Hid (VDk w7 be d1) := VE.out.below hb
  have VA : Hid (VDk w7 ba d1) := VA.out.below hb
  have VG : Hid (VDk w7 bg D0) := VG.out.below hb
  have V0 : Hid (VDk w7 w.heap.size D0) := V0.out.below hb
  have hW := below2 hW hb
  clear hb m0 m1 n0 n1 hxp hyp cms
  obtain ⟨s1, s2, s3, s4, vb, hs, hc⟩ := VA.out
  obtain ⟨q0, q1, q2, q3, qf⟩ := vb.cells
  obtain ⟨t1, t2, t3, t4, vb', hs', hc'⟩ := VE.out
  obtain ⟨p0, p1, p2, p3, pf⟩ := vb'.cells
  go_wp2_with fail
  go_at_call 22; refine (cs1 _ _ _ ⟨_, _, rfl, hs, hc⟩ ⟨_, _, rfl, hs', hc'⟩).mono ?_; rintro e w8 ⟨rfl, hb⟩
  have VG : Hid (VDk w8 bg D0) := VG.out.below hb
  have V0 : Hid (VDk w8 w.heap.size D0) := V0.out.below hb
  have hW := below2 hW hb
  clear hb vb vb' hs hc hs' hc' q0 q1 q2 q3 qf p0 p1 p2 p3 pf cs1 VA VE
  obtain ⟨s1, s2, s3, s4, vb, hs, hc⟩ := VG.out
  obtain ⟨q0, q1, q2, q3, qf⟩ := vb.cells
  obtain ⟨t1, t2, t3, t4, vb', hs', hc'⟩ := V0.out
  obtain ⟨p0, p1, p2, p3, pf⟩ := vb'.cells
  go_wp2_with fail
  go_at_call 22; refine (cs0 _ _ _ ⟨_, _, rfl, hs, hc⟩ ⟨_, _, rfl, hs', hc'⟩).mono ?_; rintro e w9 ⟨rfl, hb⟩
  have hW := below2 hW hb
  clear hb vb vb' hs hc hs' hc' q0 q1 q2 q3 qf p0 p1 p2 p3 pf cs0 VG V0
  go_wp2
  go_ret
  exact ⟨rfl, hW⟩
theorem walk (v0 : Value) (D0 : Dk) (u1 : Value) (M1 : ManT) (w : World) (b0 : HasDk w v0 D0) (f0 : Fits D0) (s0 : D0.secs.length ≤ 8796093022208 ∧ D0.cache.length ≤ 5864062014805) (b1 : HasParts w u1 M1.2) (f1 : FitM M1) :
    Calls Try.prog 4 #[v0, .agg #[.int .u64 (M1.1 : Int), u1]] w fun e w' => e = .returned (.bool true) ∧ Below w.heap.size w w' := by
  obtain ⟨so, sc, co, cc, rfl, hs, hc⟩ := b0.parts
  obtain ⟨uo, uc, rfl, _, _⟩ := b1.form
  have hn8 := load_len D0
  have form : ∀ F W v, Calls Try.prog F #[v] W (ManIs (loadM D0) W) → Calls Try.prog F #[v] W fun e w' => ∃ xo xc, e = .returned (.tuple #[.agg #[.int .u64 ((loadM D0).1.1 : Int), .slice xo (loadM D0).1.2.length xc], .int .i64 (loadM D0).2]) ∧ HasParts w' (.slice xo (loadM D0).1.2.length xc) (loadM D0).1.2 ∧ Below W.heap.size W w' := by
    intro F W v hc
    refine hc.mono ?_
    rintro e w' ⟨v, rfl, hp, hb⟩
    obtain ⟨xo, xc, rfl, _, _⟩ := hp.form
    exact ⟨xo, xc, rfl, hp, hb⟩
  have hsm := save_small (m := M1) s0
  refine core D0 (saveM D0 M1).1 M1 (loadM D0).1 (saveM D0 M1).2 (loadM D0).2 so co uo sc cc uc w hs hc b1 ?_ (fun W v h => form _ W v (load_any D0 v W h f0)) (fun W v h => form _ W v (rmload_any D0 v W h f0))
    (fun W v u h hp => (save_any D0 M1 v u W h f0 hp f1 (fun hk W v h => Disk.fresh_any D0 v W h hk)).mono (fun e w' h => back_of h)) (fun W v u h hp => (rmsave_any D0 M1 v u W h f0 hp f1).mono (fun e w' h => back_of h))
    (fun W v u h1 h2 => msame_any (loadM D0).1 v u W h1 h2 (by have := loadM_le D0; omega) hn8) (fun W v u h g => rsame_any D0 v u W h g (by omega) (by omega)) (fun W v u h g => rsame_any _ v u W h g hsm.1 hsm.2)
  intro W v h
  refine (rcopy_any D0 v W h s0.1 s0.2).mono ?_
  rintro e w' ⟨so, sc, co, cc, rfl, h1, h2, hb⟩
  exact ⟨so, sc, co, cc, rfl, Disk.hasRow_own h1, Disk.hasRow_own h2, hb⟩

set_option maxRecDepth 100000 in
theorem lifted (os : Os) (started : os.Started) (H : Type) (enc : TypeId × Value → H) :
    ReturnsInHanded {} Try.checked os 4 .any (Rows.manifestLoadsSpec.pre6 enc Try.prog Try.f4 Rows.manifestLoadsRow.domain false) (Rows.manifestLoadsSpec.post enc Try.prog Try.f4 false true false false) := by
  refine returnsInHanded_of_change_sized (C := Try.checked) own started (by kernel_rfl) Try.func4
    (ChangeSpec.witness6 (enc := enc) (C := Try.checked) false ⟨#[], #[.agg #[.slice none 0 0, .slice none 0 0, .int .i64 0, .bool false], .agg #[.int .u64 0, .slice none 0 0]], []⟩ 8 (by kernel_rfl) (by kernel_rfl) (by kernel_rfl) (by kernel_rfl)) ?_
  intro W base args ds gs before hval0 hW _ hsz0 _
  have hsz : (DataW.weightsEach Try.prog (Try.f4.params.toList ++ Rows.manifestLoadsSpec.plain.varTypes Try.prog) (ds ++ gs)).all (· ≤ reachBytes) = true := hsz0
  clear hsz0
  have hval : ∀ (j : Nat) t v, Try.f4.params[j]? = some t → args[j]? = some v → Value.okWide Try.prog W .any base t v := hval0
  have hW' := hW
  obtain ⟨p, q, hA0, hV, rfl, hfz, hnd⟩ := hW
  have hA : DataW.TrodAll enc Try.prog W 0 (fun _ => true) true Try.f4.params.toList args.toList ds p := hA0
  rw [Try.params4] at hA hval hsz
  obtain ⟨v0, vs0, d0, ds0, p0, q0, hargs, rfl, rfl, h0, r0⟩ := trodAll_cons hA
  obtain ⟨v1, vs1, d1, ds1, p1, q1, rfl, rfl, rfl, h1, r1⟩ := trodAll_cons r0
  obtain ⟨rfl, rfl, rfl⟩ := trodAll_nil r1
  obtain rfl : args = #[v0, v1] := by cases args; simp_all
  obtain ⟨rfl, rfl⟩ := trodVars_none hV
  have k0 := h0
  have lt0 : ∀ x ∈ p0, x.block < W.heap.size := by obtain ⟨m, hm⟩ := k0; exact DataW.trod_lt m _ _ _ hm
  obtain ⟨D0, b0, f0, s0⟩ := Disk.open_disk_s (hval 0 38 v0 rfl rfl) h0 (fun n hn => by
    have := List.all_eq_true.1 hsz n (DataW.weights_mem_each (j := 0) rfl rfl n hn)
    simpa using this)
  have k1 := h1
  have lt1 : ∀ x ∈ p1, x.block < W.heap.size := by obtain ⟨m, hm⟩ := k1; exact DataW.trod_lt m _ _ _ hm
  obtain ⟨M1, u1, rfl, b1, f1⟩ := Man.open_manifest (hval 1 25 v1 rfl rfl) h1
  clear hA0 hval0
  refine (walk v0 D0 u1 M1 W b0 f0 s0 b1 f1).mono fun e W' ⟨he, bel⟩ => ?_
  subst he
  exact ⟨_, rfl, _, _, _, [], _, [], hW', trodAll_mk1 (shut_bool Try.underlying4 _), (trodAll_cons_mk (Below.trod laidOut (by kernel_rfl) (of_decide_eq_true (by kernel_rfl)) k0 bel lt0) (trodAll_cons_mk (Below.trod laidOut (by kernel_rfl) (of_decide_eq_true (by kernel_rfl)) k1 bel lt1) trodAll_mk0)), rfl, bel.frame _, fun h => by cases h⟩

theorem over : Rows.manifestLoadsRow.holds Try.pinned (OpenSpec.ofChange Rows.manifestLoadsSpec) :=
  OpenClaim.holds_of_wide 4 Try.f4 rfl rfl rfl rfl rfl rfl rfl ⟨rfl, rfl, rfl, rfl, rfl⟩ rfl rfl rfl rfl rfl (by kernel_rfl) Try.func4 (by kernel_rfl)
    (of_decide_eq_true (by kernel_rfl)) (by unfold Func.isWrapper; first | (rw [if_pos (by decide +kernel)]; kernel_rfl) | (rw [if_neg (by decide +kernel)]; exact ⟨rfl, rfl⟩))
    (fun os started H enc _ => lifted os started H enc)
end manifestLoads
theorem mloads_holds : Rows.ManifestLoadsSaid := manifestLoads.over
#print axioms mloads_holds
end Go.Proofs.Ytajcmgccclemdaa
