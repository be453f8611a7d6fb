/- fib.Make, fib.Size, (*fib.box).sends, does, fib.Hop. -/
import Derived.Test.YtbglbegljkgknaaGreatNq20
import Derived.Test.YtbglbegljkgknaaGreatNq25
import Derived.Test.YtbglbegljkgknaaGreatNq10
set_option linter.unusedVariables false
namespace Go.Proofs.YtbglbegljkgknaaGreat.Fib
open Go.RowKit
open Go.Proofs.YtbglbegljkgknaaGreat.Addr (Pf hiN loN rightB RowAt below2 below_drew below_new RowAt.lt RowAt.cell RowAt.frozen RowAt.below RowAt.drew RowAt.new RowAt.alloc RowAt.set1 RowAt.far1 cells4 cells2 gset grefl bset gbelow gdrew RowAt.gkeep results_cell)
open Go.Proofs.YtbglbegljkgknaaGreat.Msg (Ev Ac okE FitE evV evC checkE FitA)
open Go.Proofs.YtbglbegljkgknaaGreat.Lk (Lk HasLks HasLks.keep FitL peerL)
open Go.Proofs.YtbglbegljkgknaaGreat.Tr (Rt HasRts HasRts.keep FitR longT rtA)
def hopRo (R : Ro) (six : Bool) (a : Nat) : (Nat × Int) × Int := if okRo R && rightB six a then (doesRo R (longT R.rts six a).1.act, 0) else ((0, 0), 2)
theorem make_any (i : Int) (w : World) : Calls Tryz.prog 74 #[.int .i64 i] w (RoIs (makeRo i).1 (makeRo i).2 w) := by
  have cM := fun W => mayBe_any i W
  have hA : makeRo i = if okId i then (⟨i, false, [], []⟩, 0) else (zeroRo, 1) := rfl
  generalize makeRo i = A at hA ⊢
  generalize okId i = k at hA cM
  have HA : Hid (A = if k then (⟨i, false, [], []⟩, 0) else (zeroRo, 1)) := hA
  clear hA
  have c25 := fun (W : World) => ro_nil W
  obtain ⟨X, hX⟩ : ∃ X, X = w.alloc (.cells #[.int .i64 0, .bool false, .slice none 0 0, .slice none 0 0] 51) := ⟨_, rfl⟩
  have hB : Below w.heap.size w X := by rw [hX]; exact below_new (Below.refl _ _) _
  have r0 : RowAt X w.heap.size [.int .i64 0, .bool false, .slice none 0 0, .slice none 0 0] 51 := by rw [hX]; exact RowAt.new _ _ _
  go_enter Tryz.func74, Tryz.ntmps74
  go_upto_region 1 with fail
  rw [← hX]
  clear hX
  go_wp2_with fail
  go_at_call 55; refine (cM _).mono ?_; rintro x w1 ⟨rfl, hb1⟩
  replace hB := below2 hB hb1
  obtain ⟨q0, q1, q2, q3, qf⟩ := cells4 (RowAt.below r0 hb1)
  clear hb1 r0 cM
  cases k
  · have HV : Hid (A = (zeroRo, 1)) := HA.out
    clear HA
    go_wp2_with fail
    (try simp only [Exit.inBlock, Exit.then])
    refine bodyPost_ret (v := .tuple #[.agg #[.int .i64 0, .bool false, .slice none 0 0, .slice none 0 0], .int .i64 1]) ?_ rfl ⟨none, 0, 0, none, 0, 0, by rw [HV.out]; rfl, by rw [HV.out]; exact (c25 _).1, by rw [HV.out]; exact (c25 _).2, ?_⟩
    · rw [results_cell_tmp rfl]
      go_simp
    · exact set4_bl hB (by omega) _ _ _ _
  · have HV : Hid (A = (⟨i, false, [], []⟩, 0)) := HA.out
    clear HA
    go_wp2_with fail
    (try simp only [Exit.inBlock, Exit.then])
    refine bodyPost_ret (v := .tuple #[.agg #[.int .i64 i, .bool false, .slice none 0 0, .slice none 0 0], .int .i64 0]) ?_ rfl ⟨none, 0, 0, none, 0, 0, by rw [HV.out], by rw [HV.out]; exact (c25 _).1, by rw [HV.out]; exact (c25 _).2, ?_⟩
    · rw [results_cell_tmp rfl]
      go_simp
    · exact set4_bl hB (by omega) _ _ _ _
theorem set2_bl {b0 B : Nat} {w0 W : World} (h : Below b0 w0 W) (hb : b0 ≤ B) (x y : Value) : Below b0 w0 ((W.setCell ⟨B, 0, none⟩ x).setCell ⟨B, 1, none⟩ y) := bset (bset h hb) hb
set_option maxHeartbeats 2000000 in
theorem sends_any (R : Ro) (i : Int) (B : Nat) (a b : Value) (w : World) (hr : RowAt w B [.int .i64 R.id, .bool R.up, a, b] 117) (hb : HasLks w b R.lks) :
    Calls Tryz.prog 96 #[.pointer (some ⟨B, 0, none⟩), .int .i64 i] w fun x w' => x = .returned (.agg #[.int .u8 ((sendsRo R i).1 : Int), .int .i64 (sendsRo R i).2]) ∧ Below w.heap.size w w' := by
  obtain ⟨o3, m3, rfl, _⟩ := Lk.HasRow.slice hb
  have cP := fun W (h : HasLks W (.slice o3 R.lks.length m3) R.lks) => Lk.peer_any R.lks _ i W h
  have hA : sendsRo R i = if (peerL R.lks i).2 = 0 then (1, (peerL R.lks i).1) else (0, 0) := rfl
  generalize sendsRo R i = A at hA ⊢
  generalize (peerL R.lks i).2 = why at hA cP
  generalize (peerL R.lks i).1 = peer at hA cP
  obtain ⟨id, up, rts, lks⟩ := R
  simp only at hr hb cP
  generalize lks.length = n3 at *
  have HA : Hid (A = if why = 0 then (1, peer) else (0, 0)) := hA
  clear hA
  obtain ⟨X, hX⟩ : ∃ X, X = w.alloc (.cells #[.int .u8 0, .int .i64 0] 56) := ⟨_, rfl⟩
  have hB : Below w.heap.size w X := by rw [hX]; exact below_new (Below.refl _ _) _
  have r0 : RowAt X w.heap.size [.int .u8 0, .int .i64 0] 56 := by rw [hX]; exact RowAt.new _ _ _
  replace hr := RowAt.below hr hB
  replace hb := hb.keep hB
  go_enter Tryz.func96, Tryz.ntmps96
  go_upto_region 1 with fail
  rw [← hX]
  clear hX
  obtain ⟨p0, p1, p2, p3, pf0⟩ := cells4 hr
  go_wp2_with fail
  clear p0 p1 p2 p3 pf0
  go_at_call 123; refine (cP _ hb).mono ?_; rintro x w1 ⟨rfl, hb1⟩
  replace hB := below2 hB hb1
  obtain ⟨q0, q1, qf⟩ := cells2 (RowAt.below r0 hb1)
  clear hb1 cP r0 hr hb
  by_cases hw : why = 0
  · have HV : Hid (A = (1, peer)) := by show _ = _; rw [HA.out, if_pos hw]
    clear HA
    subst hw
    go_wp2_with fail
    (try simp only [Exit.inBlock, Exit.then])
    refine bodyPost_ret (v := .agg #[.int .u8 1, .int .i64 peer]) ?_ rfl ⟨by rw [HV.out]; rfl, ?_⟩
    · rw [results_cell rfl]
      go_simp
    · exact set2_bl hB (by omega) _ _
  · have HV : Hid (A = (0, 0)) := by show _ = _; rw [HA.out, if_neg hw]
    have hwb : (why != 0) = true := by simpa using hw
    clear HA
    go_wp2_with fail
    (try simp only [Exit.inBlock, Exit.then])
    refine bodyPost_ret (v := .agg #[.int .u8 0, .int .i64 0]) ?_ rfl ⟨by rw [HV.out]; rfl, ?_⟩
    · rw [results_cell rfl]
      go_simp
    · exact set2_bl hB (by omega) _ _
set_option maxHeartbeats 2000000 in
theorem does_any (R : Ro) (t : Ac) (B : Nat) (a b : Value) (w : World) (hr : RowAt w B [.int .i64 R.id, .bool R.up, a, b] 117) (hb : HasLks w b R.lks) :
    Calls Tryz.prog 69 #[.pointer (some ⟨B, 0, none⟩), .agg #[.int .u8 (t.k : Int), .int .i64 t.i]] w fun x w' => x = .returned (.agg #[.int .u8 ((doesRo R t).1 : Int), .int .i64 (doesRo R t).2]) ∧ Below w.heap.size w w' := by
  have cS := fun W (hb : Below w.heap.size w W) (h : HasLks W b R.lks) => sends_any R t.i B a b W (RowAt.below hr hb) h
  have hA : doesRo R t = if t.k = 1 then sendsRo R t.i else if t.k = 2 then (2, 0) else if t.k = 3 then (3, 0) else (0, 0) := rfl
  generalize doesRo R t = A at hA ⊢
  generalize sendsRo R t.i = S at hA cS
  obtain ⟨k, i⟩ := t
  simp only at hA cS ⊢
  have HA0 : (k = 1 ↔ (k : Int) = 1) ∧ (k = 2 ↔ (k : Int) = 2) ∧ (k = 3 ↔ (k : Int) = 3) := by omega
  simp only [HA0.1, HA0.2.1, HA0.2.2] at hA
  clear HA0
  generalize (k : Int) = k at hA ⊢
  have HA : Hid (A = if k = 1 then S else if k = 2 then (2, 0) else if k = 3 then (3, 0) else (0, 0)) := hA
  clear hA
  obtain ⟨X, hX⟩ : ∃ X, X = (w.alloc (.cells #[.int .u8 k, .int .i64 i] 36)).alloc (.cells #[.int .u8 0, .int .i64 0] 56) := ⟨_, rfl⟩
  have hB : Below w.heap.size w X := by rw [hX]; exact below_new (below_new (Below.refl _ _) _) _
  have r0 : RowAt X w.heap.size [.int .u8 k, .int .i64 i] 36 := by rw [hX]; exact (RowAt.new _ _ _).alloc _
  have r1 : RowAt X (w.heap.size + 1) [.int .u8 0, .int .i64 0] 56 := by rw [hX, ← World.size_alloc w (.cells #[.int .u8 k, .int .i64 i] 36)]; exact RowAt.new _ _ _
  replace hb := hb.keep hB
  obtain ⟨p0, p1, pf0⟩ := cells2 r0
  obtain ⟨q0, q1, qf⟩ := cells2 r1
  by_cases k1 : k = 1
  · have HV : Hid (A = S) := by show _ = _; rw [HA.out, if_pos k1]
    clear HA
    subst k1
    go_enter Tryz.func69, Tryz.ntmps69
    go_upto_region 1 with fail
    rw [← hX]
    clear hX
    go_wp2_with fail
    clear p0 p1 pf0 q0 q1 qf
    go_at_call 96; refine (cS _ hB hb).mono ?_; rintro x w1 ⟨rfl, hb1⟩
    replace hB := below2 hB hb1
    obtain ⟨q0, q1, qf⟩ := cells2 (RowAt.below r1 hb1)
    clear hb1 cS r0 r1 hb hr
    go_wp2_with fail
    (try simp only [Exit.inBlock, Exit.then])
    refine bodyPost_ret (v := .agg #[.int .u8 (S.1 : Int), .int .i64 S.2]) ?_ rfl ⟨by rw [HV.out], ?_⟩
    · rw [results_cell rfl]
      go_simp
    · exact set2_bl hB (by omega) _ _
  have kb1 : (k == 1) = false := beq_eq_false_iff_ne.2 (by omega)
  clear cS r0 r1 hb hr
  by_cases k2 : k = 2
  · have HV : Hid (A = (2, 0)) := by show _ = _; rw [HA.out, if_neg k1, if_pos k2]
    clear HA
    subst k2
    go_enter Tryz.func69, Tryz.ntmps69
    go_upto_region 1 with fail
    rw [← hX]
    clear hX
    go_wp2_with fail
    (try simp only [Exit.inBlock, Exit.then])
    refine bodyPost_ret (v := .agg #[.int .u8 2, .int .i64 0]) ?_ rfl ⟨by rw [HV.out]; rfl, ?_⟩
    · rw [results_cell rfl]
      go_simp
    · exact set2_bl hB (by omega) _ _
  have kb2 : (k == 2) = false := beq_eq_false_iff_ne.2 (by omega)
  by_cases k3 : k = 3
  · have HV : Hid (A = (3, 0)) := by show _ = _; rw [HA.out, if_neg k1, if_neg k2, if_pos k3]
    clear HA
    subst k3
    go_enter Tryz.func69, Tryz.ntmps69
    go_upto_region 1 with fail
    rw [← hX]
    clear hX
    go_wp2_with fail
    (try simp only [Exit.inBlock, Exit.then])
    refine bodyPost_ret (v := .agg #[.int .u8 3, .int .i64 0]) ?_ rfl ⟨by rw [HV.out]; rfl, ?_⟩
    · rw [results_cell rfl]
      go_simp
    · exact set2_bl hB (by omega) _ _
  have kb3 : (k == 3) = false := beq_eq_false_iff_ne.2 (by omega)
  have HV : Hid (A = (0, 0)) := by show _ = _; rw [HA.out, if_neg k1, if_neg k2, if_neg k3]
  clear HA k1 k2 k3
  go_enter Tryz.func69, Tryz.ntmps69
  go_upto_region 1 with fail
  rw [← hX]
  clear hX
  go_wp2_with fail
  (try simp only [Exit.inBlock, Exit.then])
  refine bodyPost_ret (v := .agg #[.int .u8 0, .int .i64 0]) ?_ rfl ⟨by rw [HV.out]; rfl, ?_⟩
  · rw [results_cell rfl]
    go_simp
  · exact set2_bl hB (by omega) _ _
set_option maxHeartbeats 4000000 in
set_option maxRecDepth 20000 in
theorem hop_any (R : Ro) (six : Bool) (a : Nat) (u v : Value) (w : World) (ha : HasRts w u R.rts) (hb : HasLks w v R.lks) (hf : FitRo R) (hn : a < 2 ^ 128) :
    Calls Tryz.prog 39 #[.agg #[.int .i64 R.id, .bool R.up, u, v], .bool six, .agg #[.int .u64 (hiN a : Int), .int .u64 (loN a : Int)]] w fun e w' => e = .returned (.tuple #[.agg #[.int .u8 ((hopRo R six a).1.1 : Int), .int .i64 (hopRo R six a).1.2], .int .i64 (hopRo R six a).2]) ∧ Below w.heap.size w w' := by
  obtain ⟨o2, m2, rfl, _⟩ := Lk.HasRow.slice ha
  obtain ⟨o3, m3, rfl, _⟩ := Lk.HasRow.slice hb
  have cC := fun W (h : HasRts W (.slice o2 R.rts.length m2) R.rts) (h' : HasLks W (.slice o3 R.lks.length m3) R.lks) => check_any R _ _ W h h' hf.rts
  have cR : ∀ W, Calls Tryz.prog 38 #[.bool six, .agg #[.int .u64 (hiN a : Int), .int .u64 (loN a : Int)]] W fun e w' => e = .returned (.bool (rightB six a)) ∧ Below W.heap.size W w' := fun W => Addr.right_any six a W hn
  have cL := fun W (h : HasRts W (.slice o2 R.rts.length m2) R.rts) => Tr.longest_any R.rts _ six a W h hf.rts hn
  have cD := fun W B (hr : RowAt W B [.int .i64 R.id, .bool R.up, .slice o2 R.rts.length m2, .slice o3 R.lks.length m3] 117) (h : HasLks W (.slice o3 R.lks.length m3) R.lks) => does_any R (longT R.rts six a).1.act B _ _ W hr h
  have hck : checkRo R = if okRo R then 0 else 2 := rfl
  rw [hck] at cC
  clear hck
  have hA : hopRo R six a = if okRo R && rightB six a then (doesRo R (longT R.rts six a).1.act, 0) else ((0, 0), 2) := rfl
  generalize hopRo R six a = A at hA ⊢
  generalize okRo R = kr at hA cC
  generalize rightB six a = ka at hA cR
  generalize doesRo R (longT R.rts six a).1.act = D at hA cD
  unfold rtA at cL
  generalize (longT R.rts six a).2 = lw at cL
  generalize (longT R.rts six a).1 = lr at cL cD
  obtain ⟨⟨z0, z1, z2⟩, ⟨z3, z4⟩⟩ := lr
  obtain ⟨id, up, rts, lks⟩ := R
  simp only at ha hb cC cL cD hA
  generalize rts.length = n2 at *
  generalize lks.length = n3 at *
  generalize hiN a = h at *
  generalize loN a = l at *
  generalize hiN z1 = zh at *
  generalize loN z1 = zl at *
  have HA : Hid (A = if kr && ka then (D, 0) else ((0, 0), 2)) := hA
  clear hA hf hn
  show Calls Tryz.prog 39 #[.agg #[.int .i64 id, .bool up, .slice o2 n2 m2, .slice o3 n3 m3], .bool six, .agg #[.int .u64 (h : Int), .int .u64 (l : Int)]] w _
  obtain ⟨X, hX⟩ : ∃ X, X = ((w.alloc (.cells #[.int .i64 id, .bool up, .slice o2 n2 m2, .slice o3 n3 m3] 51)).alloc (.cells #[.int .u64 (h : Int), .int .u64 (l : Int)] 31)).alloc (.cells #[.int .u8 0, .int .i64 0] 56) := ⟨_, rfl⟩
  have hB : Below w.heap.size w X := by rw [hX]; exact below_new (below_new (below_new (Below.refl _ _) _) _) _
  have r0 : RowAt X w.heap.size [.int .i64 id, .bool up, .slice o2 n2 m2, .slice o3 n3 m3] 51 := by rw [hX]; exact ((RowAt.new _ _ _).alloc _).alloc _
  have r1 : RowAt X (w.heap.size + 1) [.int .u64 (h : Int), .int .u64 (l : Int)] 31 := by rw [hX, ← World.size_alloc w (.cells #[.int .i64 id, .bool up, .slice o2 n2 m2, .slice o3 n3 m3] 51)]; exact (RowAt.new _ _ _).alloc _
  have r2 : RowAt X (w.heap.size + 2) [.int .u8 0, .int .i64 0] 56 := by rw [hX, show w.heap.size + 2 = ((w.alloc (.cells #[.int .i64 id, .bool up, .slice o2 n2 m2, .slice o3 n3 m3] 51)).alloc (.cells #[.int .u64 (h : Int), .int .u64 (l : Int)] 31)).heap.size by simp]; exact RowAt.new _ _ _
  replace ha := ha.keep hB
  replace hb := hb.keep hB
  cases kr
  · have HV : Hid (A = ((0, 0), 2)) := HA.out
    clear HA cL cD cR
    simp only [Bool.false_eq_true, if_false] at cC
    go_enter Tryz.func39, Tryz.ntmps39
    go_upto_region 1 with fail
    rw [← hX]
    clear hX
    obtain ⟨p0, p1, p2, p3, pf0⟩ := cells4 r0
    go_wp2_with fail
    clear p0 p1 p2 p3 pf0
    go_at_call 30; refine (cC _ ha hb).mono ?_; rintro x w1 ⟨rfl, hb1⟩
    replace hB := below2 hB hb1
    replace r0 := RowAt.below r0 hb1
    replace r1 := RowAt.below r1 hb1
    replace r2 := RowAt.below r2 hb1
    replace ha := ha.keep hb1
    replace hb := hb.keep hb1
    clear hb1 cC
    obtain ⟨q0, q1, qf⟩ := cells2 r2
    go_wp2_with fail
    (try simp only [Exit.inBlock, Exit.then])
    refine bodyPost_ret (v := .tuple #[.agg #[.int .u8 0, .int .i64 0], .int .i64 2]) ?_ rfl ⟨by rw [HV.out]; rfl, ?_⟩
    · rw [results_cell_tmp rfl]
      go_simp
    · exact set2_bl hB (by omega) _ _
  simp only [if_true] at cC
  cases ka
  · have HV : Hid (A = ((0, 0), 2)) := HA.out
    clear HA cL cD
    go_enter Tryz.func39, Tryz.ntmps39
    go_upto_region 1 with fail
    rw [← hX]
    clear hX
    obtain ⟨p0, p1, p2, p3, pf0⟩ := cells4 r0
    go_wp2_with fail
    clear p0 p1 p2 p3 pf0
    go_at_call 30; refine (cC _ ha hb).mono ?_; rintro x w1 ⟨rfl, hb1⟩
    replace hB := below2 hB hb1
    replace r0 := RowAt.below r0 hb1
    replace r1 := RowAt.below r1 hb1
    replace r2 := RowAt.below r2 hb1
    replace ha := ha.keep hb1
    replace hb := hb.keep hb1
    clear hb1 cC
    obtain ⟨q0, q1, qf⟩ := cells2 r1
    go_wp2_with fail
    clear q0 q1 qf
    go_at_call 38; refine (cR _).mono ?_; rintro x w2 ⟨rfl, hb2⟩
    replace hB := below2 hB hb2
    replace r2 := RowAt.below r2 hb2
    clear hb2 cR
    obtain ⟨q0, q1, qf⟩ := cells2 r2
    go_wp2_with fail
    (try simp only [Exit.inBlock, Exit.then])
    refine bodyPost_ret (v := .tuple #[.agg #[.int .u8 0, .int .i64 0], .int .i64 2]) ?_ rfl ⟨by rw [HV.out]; rfl, ?_⟩
    · rw [results_cell_tmp rfl]
      go_simp
    · exact set2_bl hB (by omega) _ _
  have HV : Hid (A = (D, 0)) := HA.out
  clear HA
  go_enter Tryz.func39, Tryz.ntmps39
  go_upto_region 1 with fail
  rw [← hX]
  clear hX
  obtain ⟨p0, p1, p2, p3, pf0⟩ := cells4 r0
  go_wp2_with fail
  clear p0 p1 p2 p3 pf0
  go_at_call 30; refine (cC _ ha hb).mono ?_; rintro x w1 ⟨rfl, hb1⟩
  replace hB := below2 hB hb1
  replace r0 := RowAt.below r0 hb1
  replace r1 := RowAt.below r1 hb1
  replace r2 := RowAt.below r2 hb1
  replace ha := ha.keep hb1
  replace hb := hb.keep hb1
  clear hb1 cC
  obtain ⟨q0, q1, qf⟩ := cells2 r1
  go_wp2_with fail
  clear q0 q1 qf
  go_at_call 38; refine (cR _).mono ?_; rintro x w2 ⟨rfl, hb2⟩
  replace hB := below2 hB hb2
  replace r0 := RowAt.below r0 hb2
  replace r1 := RowAt.below r1 hb2
  replace r2 := RowAt.below r2 hb2
  replace ha := ha.keep hb2
  replace hb := hb.keep hb2
  clear hb2 cR
  obtain ⟨p0, p1, p2, p3, pf0⟩ := cells4 r0
  obtain ⟨q0, q1, qf⟩ := cells2 r1
  go_wp2_with fail
  clear p0 p1 p2 p3 pf0 q0 q1 qf
  go_at_call 68; refine (cL _ ha).mono ?_; rintro x w3 ⟨rfl, hb3⟩
  replace hB := below2 hB hb3
  replace r0 := RowAt.below r0 hb3
  replace r2 := RowAt.below r2 hb3
  replace hb := hb.keep hb3
  clear hb3 cL r1 ha
  obtain ⟨V, hV⟩ : ∃ V, V = w3.alloc (.cells #[.bool z0, .int .u64 (zh : Int), .int .u64 (zl : Int), .int .i64 z2, .int .u8 (z3 : Int), .int .i64 z4] 105) := ⟨_, rfl⟩
  have hbV : Below w3.heap.size w3 V := by rw [hV]; exact below_new (Below.refl _ _) _
  have r3 : RowAt V w3.heap.size [.bool z0, .int .u64 (zh : Int), .int .u64 (zl : Int), .int .i64 z2, .int .u8 (z3 : Int), .int .i64 z4] 105 := by rw [hV]; exact RowAt.new _ _ _
  replace hB := below2 hB hbV
  replace r0 := RowAt.below r0 hbV
  replace r2 := RowAt.below r2 hbV
  replace hb := hb.keep hbV
  go_upto_region 4 with fail
  rw [← hV]
  clear hV hbV
  generalize w3.heap.size = B at *
  obtain ⟨p0, p1, p2, p3, pf0⟩ := cells4 r0
  obtain ⟨Y, hY⟩ : ∃ Y, Y = V.alloc (.cells #[.int .i64 id, .bool up, .slice o2 n2 m2, .slice o3 n3 m3] 117) := ⟨_, rfl⟩
  have hbY : Below V.heap.size V Y := by rw [hY]; exact below_new (Below.refl _ _) _
  have r4 : RowAt Y V.heap.size [.int .i64 id, .bool up, .slice o2 n2 m2, .slice o3 n3 m3] 117 := by rw [hY]; exact RowAt.new _ _ _
  replace hB := below2 hB hbY
  replace r2 := RowAt.below r2 hbY
  replace r3 := RowAt.below r3 hbY
  replace hb := hb.keep hbY
  go_upto_region 5 with fail
  rw [← hY]
  clear hY p0 p1 p2 p3 pf0 r0 hbY
  have s4 := RowAt.cell r3 4
  have s5 := RowAt.cell r3 5
  have s6 := RowAt.frozen r3
  simp only [List.getElem?_cons_succ, List.getElem?_cons_zero] at s4 s5
  go_wp2_with fail
  clear s4 s5 s6
  go_at_call 69; refine (cD _ _ r4 hb).mono ?_; rintro x w4 ⟨rfl, hb4⟩
  replace hB := below2 hB hb4
  obtain ⟨q0, q1, qf⟩ := cells2 (RowAt.below r2 hb4)
  clear hb4 cD r2 r3 r4 hb
  go_wp2_with fail
  (try simp only [Exit.inBlock, Exit.then])
  refine bodyPost_ret (v := .tuple #[.agg #[.int .u8 (D.1 : Int), .int .i64 D.2], .int .i64 0]) ?_ rfl ⟨by rw [HV.out], ?_⟩
  · rw [results_cell_tmp rfl]
    go_simp
  · exact set2_bl hB (by omega) _ _
end Go.Proofs.YtbglbegljkgknaaGreat.Fib
