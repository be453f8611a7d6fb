/- For every two events and text: spoorlaw11.MsgAlone returns true, and changes nothing that was there. No condition. -/
import Derived.Test.YtcnhbaiogjfhcaaRows
import Derived.Test.YtcnhbaiogjfhcaaMsgLives
import Derived.Test.YtcnhbaiogjfhcaaMsgBackM
import Derived.Test.YtcnhbaiogjfhcaaMsgOpen
import Derived.ProofKit
import Derived.OpenShut
import Derived.ShutString
import Derived.SizedLaws
set_option linter.unusedVariables false
namespace Go.Proofs.Ytcnhbaiogjfhcaa
namespace msgAlone
open Go.ChangeShapes Go.WideShapes Go.ChangeAt Go.RowKit
open Go.ChangeMaps (open_string shut_string)
open Go.Proofs.Ytcnhbaiogjfhcaa.Msg
open Go.Proofs.Ytcnhbaiogjfhcaa.Addr (Pf okP checkP wideN firstN kP hiN loN adV pfV RowAt below2 below_drew below_new bset RowAt.lt RowAt.cell RowAt.frozen RowAt.below RowAt.drew RowAt.new RowAt.alloc gdrew gset gbelow galloc grefl cells2 cells4 results_cell)

theorem own : ownKnob Try.prog.godebug = none := by kernel_rfl
theorem laidOut : laidOutB Try.prog = true := by kernel_rfl
theorem ne_of {F T : ByteArray} (h : F ≠ T) : (F.toList == T.toList) = false := by
  rw [ByteArray.toList_eq, ByteArray.toList_eq]
  apply beq_eq_false_iff_ne.2
  intro hc
  exact h (by cases F; cases T; simp at hc; rw [hc])
theorem get_more (e : Ev) (m : List UInt8) (h : okE e = true) : (getE (evB e ++ m)).2 = if m = [] then 0 else 7 := by
  have h2 : firstP rdE okE zeroE (evB e ++ m) = (e, m, 0) := by
    unfold firstP
    rw [rdE_put e m h]
    simp only
    rw [if_pos h]
  unfold getE
  rw [h2]
  cases m with
  | nil => rfl
  | cons a t => rfl
theorem alone {e f : Ev} (he : okE e = true) (hf : okE f = true) (h : evB e = (evB f).take (evB e).length) : e = f := by
  have h1 : evB f = evB e ++ (evB f).drop (evB e).length := by
    conv => lhs; rw [← List.take_append_drop (evB e).length (evB f)]
    rw [← h]
  have h2 := rdE_put f [] hf
  rw [List.append_nil, h1, rdE_put e _ he] at h2
  injection h2
theorem evB_lim (e : Ev) (h : okE e = true) : (evB e).length ≤ 64 := by
  have h1 := restB_le e h
  obtain ⟨⟨hk, hr, hs, ht⟩, _, _⟩ := okE_bd h
  have q1 := putL_le e.router.toNat (by omega)
  have q2 := putL_le e.seq (by omega)
  have q3 := putL_le e.time.toNat (by omega)
  unfold evB
  simp only [List.length_append, List.length_cons, List.length_nil]
  omega
set_option maxHeartbeats 8000000 in
set_option maxRecDepth 20000 in
theorem walk0 (c0 c1 c2 c3 c5 c6 c7 c8 c9 c10 c11 d0 d1 d2 d3 d5 d6 d7 d8 d9 d10 d11 : Int) (c4 d4 : Bool) (M S T : ByteArray) (E1 E2 : Int) (w : World)
    (k1 : ∀ W : World, Calls Try.prog 8 #[.agg #[.int .u8 c0, .int .i64 c1, .int .u64 c2, .int .i64 c3, .bool c4, .int .u64 c5, .int .u64 c6, .int .i64 c7, .int .u8 c8, .int .i64 c9, .int .i64 c10, .int .i64 c11]] W fun e w' => e = .returned (.tuple #[.string S, .int .i64 E1]) ∧ Below W.heap.size W w')
    (k2 : ∀ W : World, Calls Try.prog 8 #[.agg #[.int .u8 d0, .int .i64 d1, .int .u64 d2, .int .i64 d3, .bool d4, .int .u64 d5, .int .u64 d6, .int .i64 d7, .int .u8 d8, .int .i64 d9, .int .i64 d10, .int .i64 d11]] W fun e w' => e = .returned (.tuple #[.string T, .int .i64 E2]) ∧ Below W.heap.size W w')
    (hE : E1 ≠ 0 ∨ (E1 = 0 ∧ E2 ≠ 0)) :
    Calls Try.prog 6 #[.agg #[.int .u8 c0, .int .i64 c1, .int .u64 c2, .int .i64 c3, .bool c4, .int .u64 c5, .int .u64 c6, .int .i64 c7, .int .u8 c8, .int .i64 c9, .int .i64 c10, .int .i64 c11], .agg #[.int .u8 d0, .int .i64 d1, .int .u64 d2, .int .i64 d3, .bool d4, .int .u64 d5, .int .u64 d6, .int .i64 d7, .int .u8 d8, .int .i64 d9, .int .i64 d10, .int .i64 d11], .string M] w fun e w' => e = .returned (.bool true) ∧ Below w.heap.size w w' := by
  have hv := lives_any
  have hgd := ev_guard
  go_enter Try.func6, Try.ntmps6
  go_upto_region 1 with fail
  have hB : Below w.heap.size w w := Below.refl _ _
  obtain ⟨Y1, hY⟩ : ∃ Y1, Y1 = (w.alloc (.cells #[.int .u8 c0, .int .i64 c1, .int .u64 c2, .int .i64 c3, .bool c4, .int .u64 c5, .int .u64 c6, .int .i64 c7, .int .u8 c8, .int .i64 c9, .int .i64 c10, .int .i64 c11] 32)).alloc (.cells #[.int .u8 d0, .int .i64 d1, .int .u64 d2, .int .i64 d3, .bool d4, .int .u64 d5, .int .u64 d6, .int .i64 d7, .int .u8 d8, .int .i64 d9, .int .i64 d10, .int .i64 d11] 32) := ⟨_, rfl⟩
  have hbY : Below w.heap.size w Y1 := by rw [hY]; exact below_new (below_new (Below.refl _ _) _) _
  have rp : RowAt Y1 w.heap.size [.int .u8 c0, .int .i64 c1, .int .u64 c2, .int .i64 c3, .bool c4, .int .u64 c5, .int .u64 c6, .int .i64 c7, .int .u8 c8, .int .i64 c9, .int .i64 c10, .int .i64 c11] 32 := by rw [hY]; exact (RowAt.new w [.int .u8 c0, .int .i64 c1, .int .u64 c2, .int .i64 c3, .bool c4, .int .u64 c5, .int .u64 c6, .int .i64 c7, .int .u8 c8, .int .i64 c9, .int .i64 c10, .int .i64 c11] 32).alloc _
  have ra : RowAt Y1 (w.heap.size + 1) [.int .u8 d0, .int .i64 d1, .int .u64 d2, .int .i64 d3, .bool d4, .int .u64 d5, .int .u64 d6, .int .i64 d7, .int .u8 d8, .int .i64 d9, .int .i64 d10, .int .i64 d11] 32 := by
    have h := RowAt.new (w.alloc (.cells #[.int .u8 c0, .int .i64 c1, .int .u64 c2, .int .i64 c3, .bool c4, .int .u64 c5, .int .u64 c6, .int .i64 c7, .int .u8 c8, .int .i64 c9, .int .i64 c10, .int .i64 c11] 32)) [.int .u8 d0, .int .i64 d1, .int .u64 d2, .int .i64 d3, .bool d4, .int .u64 d5, .int .u64 d6, .int .i64 d7, .int .u8 d8, .int .i64 d9, .int .i64 d10, .int .i64 d11] 32
    simp only [World.size_alloc] at h
    rw [hY]; exact h
  rw [← hY]
  replace hB := below2 hB hbY
  clear hY hbY
  obtain ⟨gp, hg⟩ : ∃ g, g = w.heap.size := ⟨_, rfl⟩
  obtain ⟨ga, hg2⟩ : ∃ g, g = w.heap.size + 1 := ⟨_, rfl⟩
  rw [← hg] at rp
  rw [← hg2] at ra
  rw [← hg2, ← hg]
  clear hg hg2
  go_wp2_with fail
  go_at_call 12; refine (hv _).mono ?_; rintro e w2 ⟨rfl, hb⟩
  replace rp := RowAt.below rp hb
  replace ra := RowAt.below ra hb
  replace hB := below2 hB hb
  clear hb
  obtain ⟨⟨u0, u1, u2, u3, u4, u5⟩, ⟨u6, u7, u8, u9, u10, u11⟩, uf, ul⟩ := cells12 rp
  go_wp2_with fail
  go_at_call 8; refine (k1 _).mono ?_; rintro e w3 ⟨rfl, hb⟩
  replace rp := RowAt.below rp hb
  replace ra := RowAt.below ra hb
  replace hB := below2 hB hb
  clear hb
  clear u0 u1 u2 u3 u4 u5 u6 u7 u8 u9 u10 u11 uf ul
  obtain ⟨⟨u0, u1, u2, u3, u4, u5⟩, ⟨u6, u7, u8, u9, u10, u11⟩, uf, ul⟩ := cells12 ra
  go_wp2_with fail
  go_at_call 8; refine (k2 _).mono ?_; rintro e w4 ⟨rfl, hb⟩
  replace rp := RowAt.below rp hb
  replace ra := RowAt.below ra hb
  replace hB := below2 hB hb
  clear hb
  clear u0 u1 u2 u3 u4 u5 u6 u7 u8 u9 u10 u11 uf ul
  rcases hE with h | ⟨h, h2⟩
  · have h3 : (E1 == 0) = false := beq_eq_false_iff_ne.2 h
    have h4 : (E1 != 0) = true := bne_iff_ne.2 h
    go_wp2_with fail
    go_ret
    exact ⟨rfl, hB⟩
  · subst h
    have h3 : (E2 == 0) = false := beq_eq_false_iff_ne.2 h2
    have h4 : (E2 != 0) = true := bne_iff_ne.2 h2
    go_wp2_with fail
    go_ret
    exact ⟨rfl, hB⟩
set_option maxHeartbeats 8000000 in
set_option maxRecDepth 20000 in
theorem walk1 (c0 c1 c2 c3 c5 c6 c7 c8 c9 c10 c11 d0 d1 d2 d3 d5 d6 d7 d8 d9 d10 d11 x0 x1 x2 x3 x5 x6 x7 x8 x9 x10 x11 : Int) (c4 d4 x4 Q : Bool) (M S T : ByteArray) (E1 E2 : Int) (w : World)
    (k1 : ∀ W : World, Calls Try.prog 8 #[.agg #[.int .u8 c0, .int .i64 c1, .int .u64 c2, .int .i64 c3, .bool c4, .int .u64 c5, .int .u64 c6, .int .i64 c7, .int .u8 c8, .int .i64 c9, .int .i64 c10, .int .i64 c11]] W fun e w' => e = .returned (.tuple #[.string S, .int .i64 E1]) ∧ Below W.heap.size W w')
    (k2 : ∀ W : World, Calls Try.prog 8 #[.agg #[.int .u8 d0, .int .i64 d1, .int .u64 d2, .int .i64 d3, .bool d4, .int .u64 d5, .int .u64 d6, .int .i64 d7, .int .u8 d8, .int .i64 d9, .int .i64 d10, .int .i64 d11]] W fun e w' => e = .returned (.tuple #[.string T, .int .i64 E2]) ∧ Below W.heap.size W w')
    (h1 : E1 = 0) (h2 : E2 = 0) (SM S1 T1 : ByteArray) (hSM : S ++ M = SM) (z1 : ¬ 9223372036854775807 < S.size + M.size) (V : Int) (n : Nat)
    (k3 : ∀ W : World, Calls Try.prog 10 #[.string SM] W fun e w' => e = .returned (.tuple #[.agg #[.int .u8 x0, .int .i64 x1, .int .u64 x2, .int .i64 x3, .bool x4, .int .u64 x5, .int .u64 x6, .int .i64 x7, .int .u8 x8, .int .i64 x9, .int .i64 x10, .int .i64 x11], .int .i64 V]) ∧ Below W.heap.size W w')
    (hq : ∀ W : World, (binOp .eql 32 (.agg #[.int .u8 c0, .int .i64 c1, .int .u64 c2, .int .i64 c3, .bool c4, .int .u64 c5, .int .u64 c6, .int .i64 c7, .int .u8 c8, .int .i64 c9, .int .i64 c10, .int .i64 c11]) (.agg #[.int .u8 d0, .int .i64 d1, .int .u64 d2, .int .i64 d3, .bool d4, .int .u64 d5, .int .u64 d6, .int .i64 d7, .int .u8 d8, .int .i64 d9, .int .i64 d10, .int .i64 d11])).run Try.prog W = .ok (.bool Q) W)
    (hV : (M.toList.isEmpty = true ∧ V = 0) ∨ (M.toList.isEmpty = false ∧ V ≠ 0))
    (hS : S.size ≤ 64) (hT : T.size ≤ 64) (hn : n = min S.size T.size)
    (hS1 : S.extract 0 n = S1) (hT1 : T.extract 0 n = T1) (hQ : (Q = true ∧ S1 = T1) ∨ (Q = false ∧ S1 ≠ T1)) :
    Calls Try.prog 6 #[.agg #[.int .u8 c0, .int .i64 c1, .int .u64 c2, .int .i64 c3, .bool c4, .int .u64 c5, .int .u64 c6, .int .i64 c7, .int .u8 c8, .int .i64 c9, .int .i64 c10, .int .i64 c11], .agg #[.int .u8 d0, .int .i64 d1, .int .u64 d2, .int .i64 d3, .bool d4, .int .u64 d5, .int .u64 d6, .int .i64 d7, .int .u8 d8, .int .i64 d9, .int .i64 d10, .int .i64 d11], .string M] w fun e w' => e = .returned (.bool true) ∧ Below w.heap.size w w' := by
  have hv := lives_any
  have hgd := ev_guard
  go_enter Try.func6, Try.ntmps6
  go_upto_region 1 with fail
  have hB : Below w.heap.size w w := Below.refl _ _
  obtain ⟨Y1, hY⟩ : ∃ Y1, Y1 = (w.alloc (.cells #[.int .u8 c0, .int .i64 c1, .int .u64 c2, .int .i64 c3, .bool c4, .int .u64 c5, .int .u64 c6, .int .i64 c7, .int .u8 c8, .int .i64 c9, .int .i64 c10, .int .i64 c11] 32)).alloc (.cells #[.int .u8 d0, .int .i64 d1, .int .u64 d2, .int .i64 d3, .bool d4, .int .u64 d5, .int .u64 d6, .int .i64 d7, .int .u8 d8, .int .i64 d9, .int .i64 d10, .int .i64 d11] 32) := ⟨_, rfl⟩
  have hbY : Below w.heap.size w Y1 := by rw [hY]; exact below_new (below_new (Below.refl _ _) _) _
  have rp : RowAt Y1 w.heap.size [.int .u8 c0, .int .i64 c1, .int .u64 c2, .int .i64 c3, .bool c4, .int .u64 c5, .int .u64 c6, .int .i64 c7, .int .u8 c8, .int .i64 c9, .int .i64 c10, .int .i64 c11] 32 := by rw [hY]; exact (RowAt.new w [.int .u8 c0, .int .i64 c1, .int .u64 c2, .int .i64 c3, .bool c4, .int .u64 c5, .int .u64 c6, .int .i64 c7, .int .u8 c8, .int .i64 c9, .int .i64 c10, .int .i64 c11] 32).alloc _
  have ra : RowAt Y1 (w.heap.size + 1) [.int .u8 d0, .int .i64 d1, .int .u64 d2, .int .i64 d3, .bool d4, .int .u64 d5, .int .u64 d6, .int .i64 d7, .int .u8 d8, .int .i64 d9, .int .i64 d10, .int .i64 d11] 32 := by
    have h := RowAt.new (w.alloc (.cells #[.int .u8 c0, .int .i64 c1, .int .u64 c2, .int .i64 c3, .bool c4, .int .u64 c5, .int .u64 c6, .int .i64 c7, .int .u8 c8, .int .i64 c9, .int .i64 c10, .int .i64 c11] 32)) [.int .u8 d0, .int .i64 d1, .int .u64 d2, .int .i64 d3, .bool d4, .int .u64 d5, .int .u64 d6, .int .i64 d7, .int .u8 d8, .int .i64 d9, .int .i64 d10, .int .i64 d11] 32
    simp only [World.size_alloc] at h
    rw [hY]; exact h
  rw [← hY]
  replace hB := below2 hB hbY
  clear hY hbY
  obtain ⟨gp, hg⟩ : ∃ g, g = w.heap.size := ⟨_, rfl⟩
  obtain ⟨ga, hg2⟩ : ∃ g, g = w.heap.size + 1 := ⟨_, rfl⟩
  rw [← hg] at rp
  rw [← hg2] at ra
  rw [← hg2, ← hg]
  clear hg hg2
  go_wp2_with fail
  go_at_call 12; refine (hv _).mono ?_; rintro e w2 ⟨rfl, hb⟩
  replace rp := RowAt.below rp hb
  replace ra := RowAt.below ra hb
  replace hB := below2 hB hb
  clear hb
  obtain ⟨⟨u0, u1, u2, u3, u4, u5⟩, ⟨u6, u7, u8, u9, u10, u11⟩, uf, ul⟩ := cells12 rp
  go_wp2_with fail
  go_at_call 8; refine (k1 _).mono ?_; rintro e w3 ⟨rfl, hb⟩
  replace rp := RowAt.below rp hb
  replace ra := RowAt.below ra hb
  replace hB := below2 hB hb
  clear hb
  clear u0 u1 u2 u3 u4 u5 u6 u7 u8 u9 u10 u11 uf ul
  obtain ⟨⟨u0, u1, u2, u3, u4, u5⟩, ⟨u6, u7, u8, u9, u10, u11⟩, uf, ul⟩ := cells12 ra
  go_wp2_with fail
  go_at_call 8; refine (k2 _).mono ?_; rintro e w4 ⟨rfl, hb⟩
  replace rp := RowAt.below rp hb
  replace ra := RowAt.below ra hb
  replace hB := below2 hB hb
  clear hb
  clear u0 u1 u2 u3 u4 u5 u6 u7 u8 u9 u10 u11 uf ul
  subst h1
  subst h2
  go_wp2_with fail
  go_at_call 10; refine (k3 _).mono ?_; rintro e w5 ⟨rfl, hb⟩
  replace rp := RowAt.below rp hb
  replace ra := RowAt.below ra hb
  replace hB := below2 hB hb
  clear hb
  go_upto_region 8 with fail
  obtain ⟨Y6, hY⟩ : ∃ Y6, Y6 = w5.alloc (.cells #[.int .u8 x0, .int .i64 x1, .int .u64 x2, .int .i64 x3, .bool x4, .int .u64 x5, .int .u64 x6, .int .i64 x7, .int .u8 x8, .int .i64 x9, .int .i64 x10, .int .i64 x11] 32) := ⟨_, rfl⟩
  have hbY : Below w5.heap.size w5 Y6 := by rw [hY]; exact below_new (Below.refl _ _) _
  rw [← hY]
  replace rp := RowAt.below rp hbY
  replace ra := RowAt.below ra hbY
  replace hB := below2 hB hbY
  clear hY hbY
  clear k1 k2 k3 hv hSM z1
  obtain ⟨⟨u0, u1, u2, u3, u4, u5⟩, ⟨u6, u7, u8, u9, u10, u11⟩, uf, ul⟩ := cells12 rp
  obtain ⟨⟨v0, v1, v2, v3, v4, v5⟩, ⟨v6, v7, v8, v9, v10, v11⟩, vf, vl⟩ := cells12 ra
  have m1 : min (S.size : Int) (T.size : Int) = (n : Int) := by omega
  have m2 : (n : Int) ≤ (S.size : Int) := by omega
  have m3 : (n : Int) ≤ (T.size : Int) := by omega
  have m4 : n ≤ S.size := by omega
  have m5 : n ≤ T.size := by omega
  have m6 : ((n : Int)).toNat = n := Int.toNat_natCast n
  go_upto_region 9 with fail
  rw [← hn]
  clear hn m1
  rcases hV with ⟨hM, rfl⟩ | ⟨hM, hV⟩
  · rcases hQ with ⟨rfl, rfl⟩ | ⟨rfl, hQ⟩
    · go_quiet (fail)
      go_wp2_with fail
      go_ret
      exact ⟨rfl, by first | exact hB | exact below_drew hB | exact below_drewN hB _⟩
    · have q1 := ne_of hQ
      go_quiet (fail)
      go_wp2_with fail
      go_ret
      exact ⟨rfl, by first | exact hB | exact below_drew hB | exact below_drewN hB _⟩
  · have v1 : (V == 0) = false := beq_eq_false_iff_ne.2 hV
    rcases hQ with ⟨rfl, rfl⟩ | ⟨rfl, hQ⟩
    · go_quiet (fail)
      go_wp2_with fail
      go_ret
      exact ⟨rfl, by first | exact hB | exact below_drew hB | exact below_drewN hB _⟩
    · have q1 := ne_of hQ
      go_quiet (fail)
      go_wp2_with fail
      go_ret
      exact ⟨rfl, by first | exact hB | exact below_drew hB | exact below_drewN hB _⟩
theorem walk (e f : Ev) (s : ByteArray) (w : World) (b0 : FitE e) (b1 : FitE f) (b2 : s.size ≤ 140737488351232) :
    Calls Try.prog 6 #[evV e, evV f, .string s] w fun e w' => e = .returned (.bool true) ∧ Below w.heap.size w w' := by
  obtain ⟨m, rfl⟩ : ∃ l : List UInt8, s = ⟨l.toArray⟩ := ⟨s.data.toList, by cases s; simp⟩
  have sz : ∀ l : List UInt8, (⟨l.toArray⟩ : ByteArray).size = l.length := fun l => by simp [ByteArray.size]
  rw [sz] at b2
  have k1 := fun W : World => eput_any e W b0
  have k2 := fun W : World => eput_any f W b1
  cases hok : okE e with
  | false =>
    refine walk0 _ _ _ _ _ _ _ _ _ _ _ _ _ _ _ _ _ _ _ _ _ _ _ _ ⟨m.toArray⟩ _ _ _ _ w k1 k2 (.inl ?_)
    unfold checkE; rw [hok]; decide
  | true =>
    cases hok2 : okE f with
    | false =>
      refine walk0 _ _ _ _ _ _ _ _ _ _ _ _ _ _ _ _ _ _ _ _ _ _ _ _ ⟨m.toArray⟩ _ _ _ _ w k1 k2 (.inr ⟨?_, ?_⟩)
      · unfold checkE; rw [hok]; rfl
      · unfold checkE; rw [hok2]; decide
    | true =>
      have l1 := evB_lim e hok
      have l2 := evB_lim f hok2
      have hm := get_more e m hok
      have k3 := fun W : World => eget_any (evB e ++ m) W (by rw [List.length_append]; omega)
      rw [hok, if_pos rfl] at k1
      rw [hok2, if_pos rfl] at k2
      have hx : ∀ (l : List UInt8) (n : Nat), (⟨l.toArray⟩ : ByteArray).extract 0 n = ⟨(l.take n).toArray⟩ := fun l n => by apply ByteArray.ext; simp
      have ne : ∀ a b : List UInt8, a ≠ b → (⟨a.toArray⟩ : ByteArray) ≠ ⟨b.toArray⟩ := fun a b h1 h2 => by
        injection h2 with h2
        injection h2 with h2
        exact h1 h2
      refine walk1 _ _ _ _ _ _ _ _ _ _ _ _ _ _ _ _ _ _ _ _ _ _ _ _ _ _ _ _ _ _ _ _ _ _ _ _ _ ⟨m.toArray⟩ ⟨(evB e).toArray⟩ ⟨(evB f).toArray⟩ _ _ w k1 k2 (by unfold checkE; rw [hok]; rfl) (by unfold checkE; rw [hok2]; rfl) _ _ _ (bytes_cat (evB e) m) (by rw [sz, sz]; omega) _ (min (evB e).length (evB f).length) k3 (fun W => ev_eql e f W) ?_ (by rw [sz]; omega) (by rw [sz]; omega) (by rw [sz, sz]) (hx _ _) (hx _ _) ?_
      · by_cases h : m = []
        · exact .inl ⟨by rw [h, ByteArray.toList_eq]; rfl, by rw [hm, if_pos h]⟩
        · exact .inr ⟨by rw [ByteArray.toList_eq]; cases m; exact absurd rfl h; rfl, by rw [hm, if_neg h]; decide⟩
      · by_cases h : e = f
        · exact .inl ⟨(eqE_iff e f).2 h, by rw [h]⟩
        · refine .inr ⟨by cases hq : eqE e f; rfl; exact absurd ((eqE_iff e f).1 hq) h, ne _ _ ?_⟩
          intro ht
          rcases Nat.le_total (evB e).length (evB f).length with hle | hle
          · rw [Nat.min_eq_left hle, List.take_length] at ht
            exact h (alone hok hok2 ht)
          · rw [Nat.min_eq_right hle, List.take_length] at ht
            exact h (alone hok2 hok ht.symm).symm

set_option maxRecDepth 100000 in
theorem lifted (os : Os) (started : os.Started) (H : Type) (enc : TypeId × Value → H) :
    ReturnsInHanded {} Try.checked os 6 .any (Rows.msgAloneSpec.pre6 enc Try.prog Try.f6 Rows.msgAloneRow.domain false) (Rows.msgAloneSpec.post enc Try.prog Try.f6 false true false false) := by
  refine returnsInHanded_of_change_sized (C := Try.checked) own started (by kernel_rfl) Try.func6
    (ChangeSpec.witness6 (enc := enc) (C := Try.checked) false ⟨#[], #[.agg #[.int .u8 0, .int .i64 0, .int .u64 0, .int .i64 0, .bool false, .int .u64 0, .int .u64 0, .int .i64 0, .int .u8 0, .int .i64 0, .int .i64 0, .int .i64 0], .agg #[.int .u8 0, .int .i64 0, .int .u64 0, .int .i64 0, .bool false, .int .u64 0, .int .u64 0, .int .i64 0, .int .u8 0, .int .i64 0, .int .i64 0, .int .i64 0], .string ByteArray.empty], []⟩ 8 (by kernel_rfl) (by kernel_rfl) (by kernel_rfl) (by kernel_rfl)) ?_
  intro W base args ds gs before hval0 hW _ hsz0 _
  have hsz : (DataW.weightsEach Try.prog (Try.f6.params.toList ++ Rows.msgAloneSpec.plain.varTypes Try.prog) (ds ++ gs)).all (· ≤ reachBytes) = true := hsz0
  clear hsz0
  have hval : ∀ (j : Nat) t v, Try.f6.params[j]? = some t → args[j]? = some v → Value.okWide Try.prog W .any base t v := hval0
  have hW' := hW
  obtain ⟨p, q, hA0, hV, rfl, hfz, hnd⟩ := hW
  have hA : DataW.TrodAll enc Try.prog W 0 (fun _ => true) true Try.f6.params.toList args.toList ds p := hA0
  rw [Try.params6] at hA hval hsz
  obtain ⟨v0, vs0, d0, ds0, p0, q0, hargs, rfl, rfl, h0, r0⟩ := trodAll_cons hA
  obtain ⟨v1, vs1, d1, ds1, p1, q1, rfl, rfl, rfl, h1, r1⟩ := trodAll_cons r0
  obtain ⟨v2, vs2, d2, ds2, p2, q2, rfl, rfl, rfl, h2, r2⟩ := trodAll_cons r1
  obtain ⟨rfl, rfl, rfl⟩ := trodAll_nil r2
  obtain rfl : args = #[v0, v1, v2] := by cases args; simp_all
  obtain ⟨rfl, rfl⟩ := trodVars_none hV
  have k0 := h0
  have lt0 : ∀ x ∈ p0, x.block < W.heap.size := by obtain ⟨m, hm⟩ := k0; exact DataW.trod_lt m _ _ _ hm
  obtain ⟨n0, rfl, b0⟩ := Msg.open_event (hval 0 32 v0 rfl rfl) h0
  have k1 := h1
  have lt1 : ∀ x ∈ p1, x.block < W.heap.size := by obtain ⟨m, hm⟩ := k1; exact DataW.trod_lt m _ _ _ hm
  obtain ⟨n1, rfl, b1⟩ := Msg.open_event (hval 1 32 v1 rfl rfl) h1
  obtain ⟨a2, rfl, rfl, rfl, w2⟩ := open_string Try.underlying9 (hval 2 9 v2 rfl rfl) h2
  have b2 : a2.size ≤ 140737488351232 := by
    have := sized_string hsz (j := 2) (t := 9) rfl rfl
    simpa [reachBytes] using this
  clear hA0 hval0
  refine (walk n0 n1 a2 W b0 b1 b2).mono fun e W' ⟨he, bel⟩ => ?_
  subst he
  exact ⟨_, rfl, _, _, _, [], _, [], hW', trodAll_mk1 (shut_bool Try.underlying4 _), (trodAll_cons_mk (Below.trod laidOut (by kernel_rfl) (of_decide_eq_true (by kernel_rfl)) k0 bel lt0) (trodAll_cons_mk (Below.trod laidOut (by kernel_rfl) (of_decide_eq_true (by kernel_rfl)) k1 bel lt1) (trodAll_cons_mk (shut_string Try.underlying9 w2) trodAll_mk0))), rfl, bel.frame _, fun h => by cases h⟩

theorem over : Rows.msgAloneRow.holds Try.pinned (OpenSpec.ofChange Rows.msgAloneSpec) :=
  OpenClaim.holds_of_wide 6 Try.f6 rfl rfl rfl rfl rfl rfl rfl ⟨rfl, rfl, rfl, rfl, rfl⟩ rfl rfl rfl rfl rfl (by kernel_rfl) Try.func6 (by kernel_rfl)
    (of_decide_eq_true (by kernel_rfl)) (by unfold Func.isWrapper; first | (rw [if_pos (by decide +kernel)]; kernel_rfl) | (rw [if_neg (by decide +kernel)]; exact ⟨rfl, rfl⟩))
    (fun os started H enc _ => lifted os started H enc)
end msgAlone
theorem malone_holds : Rows.MsgAloneSaid := msgAlone.over
#print axioms malone_holds
end Go.Proofs.Ytcnhbaiogjfhcaa
