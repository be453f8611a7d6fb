/- The document's answer of layer 11: the event of a body, way by way. -/
import Derived.Test.YtopabkkapbaibaaGreatMsgBackM
import Derived.Test.YtopabkkapbaibaaGreatMsgFirst
import Derived.Test.YtopabkkapbaibaaGreatMathBack
import Derived.Test.YtopabkkapbaibaaGreatMsgRX2
import Derived.Test.YtopabkkapbaibaaGreatMsgGet
set_option linter.unusedVariables false
namespace Go.Proofs.YtopabkkapbaibaaGreat.Msg
theorem rdN_get (l : List UInt8) : rdN l = if (getGo 0 0 l).2.2 = 0 then some ((getGo 0 0 l).1, (getGo 0 0 l).2.1) else none := by
  by_cases h : (getGo 0 0 l).2.2 = 0
  · rw [if_pos h]
    have h1 : getGo 0 0 l = ((getGo 0 0 l).1, (getGo 0 0 l).2.1, 0) := by
      conv => lhs; rw [show getGo 0 0 l = ((getGo 0 0 l).1, (getGo 0 0 l).2.1, (getGo 0 0 l).2.2) from rfl]
      rw [h]
    obtain ⟨hn, hl⟩ := getGo_back h1
    conv => lhs; rw [← hl]
    exact rdN_put _ _ hn
  · rw [if_neg h]
    cases hr : rdN l with
    | none => rfl
    | some p =>
      obtain ⟨n, r⟩ := p
      obtain ⟨hn, hl⟩ := rdN_back hr
      have := getGo_put r n 0 0 (by omega) (.inl rfl) (by omega)
      rw [← hl] at this
      rw [this] at h
      exact absurd rfl h
theorem firstA_nil : firstP rdA okA zeroA [] = (zeroA, [], 7) := by kernel_rfl
theorem rdA_one (t : List UInt8) : rdA (some (1 :: t)) = (⟨1, (part (0 : Int) fI (some t)).1⟩, (part (0 : Int) fI (some t)).2) := by
  unfold rdA
  have e1 : part (0 : Nat) f1 (some (1 :: t)) = (1, some t) := rfl
  simp only [e1, if_true]
theorem firstA_one {t m : List UInt8} {n : Nat} (h : rdN t = some (n, m)) (hn : n ≤ 65536) : firstP rdA okA zeroA (1 :: t) = (⟨1, (n : Int)⟩, m, 0) := by
  have e2 : part (0 : Int) fI (some t) = ((n : Int), some m) := part_yes (by unfold fI; rw [h]; simp only; rw [if_pos (by omega)])
  unfold firstP
  rw [rdA_one, e2]
  simp only
  rw [if_pos (by unfold okA; simp; omega)]
theorem firstA_none {t : List UInt8} (h : rdN t = none) : firstP rdA okA zeroA (1 :: t) = (zeroA, [], 7) := by
  have e2 : (part (0 : Int) fI (some t)).2 = none := by rw [part_no (by unfold fI; rw [h])]
  unfold firstP
  rw [rdA_one, e2]
theorem firstA_far {t m : List UInt8} {n : Nat} (h : rdN t = some (n, m)) (hn : 65536 < n) : firstP rdA okA zeroA (1 :: t) = (zeroA, [], 7) := by
  by_cases hb : n ≤ 9223372036854775807
  · have e2 : part (0 : Int) fI (some t) = ((n : Int), some m) := part_yes (by unfold fI; rw [h]; simp only; rw [if_pos hb])
    unfold firstP
    rw [rdA_one, e2]
    simp only
    rw [if_neg (by unfold okA; simp; omega)]
  · have e2 : (part (0 : Int) fI (some t)).2 = none := by rw [part_no (by unfold fI; rw [h]; simp only; rw [if_neg hb])]
    unfold firstP
    rw [rdA_one, e2]
theorem firstA_other {b : UInt8} {t : List UInt8} (h : ¬ b.toNat = 1) : firstP rdA okA zeroA (b :: t) = if okA ⟨b.toNat, 0⟩ then (⟨b.toNat, 0⟩, t, 0) else (zeroA, [], 7) := by
  have e1 : part (0 : Nat) f1 (some (b :: t)) = (b.toNat, some t) := rfl
  unfold firstP rdA
  simp only [e1, h, if_false]
end Go.Proofs.YtopabkkapbaibaaGreat.Msg
namespace Go.Proofs.YtopabkkapbaibaaGreat.Msg
open Go.RowKit
open Go.Proofs.YtopabkkapbaibaaGreat.Addr (Pf okP checkP wideN firstN kP hiN loN adV pfV RowAt below2 below_drew below_new bset RowAt.lt RowAt.cell RowAt.frozen RowAt.below RowAt.drew RowAt.new RowAt.alloc gdrew gset gbelow galloc grefl cells2 cells4 results_cell)

theorem rget_list (l : List UInt8) (w : World) (hl : l.length ≤ 200000000000000) :
    Calls Tryz.prog 33 #[.string ⟨l.toArray⟩] w fun e w' => e = .returned (.tuple #[.int .u64 ((getGo 0 0 l).1 : Int), .string ⟨(getGo 0 0 l).2.1.toArray⟩, .int .i64 (getGo 0 0 l).2.2]) ∧ Below w.heap.size w w' := by
  have := rget_any ⟨l.toArray⟩ w (by rw [size_list]; unfold maxLen; omega)
  rw [show getS ⟨l.toArray⟩ = getGo 0 0 l by simp [getS]] at this
  exact this
set_option maxHeartbeats 4000000 in
theorem rgetAction_nil (w : World) :
    Calls Tryz.prog 22 #[.string ⟨#[]⟩] w fun e w' => e = .returned (.tuple #[.agg #[.int .u8 0, .int .i64 0], .string ⟨#[]⟩, .int .i64 7]) ∧ Below w.heap.size w w' := by
  obtain ⟨X, hX⟩ : ∃ X, X = w.alloc (.cells #[.int .u8 0, .int .i64 0] 33) := ⟨_, rfl⟩
  have hB : Below w.heap.size w X := by rw [hX]; exact below_new (Below.refl _ _) _
  have rx : RowAt X w.heap.size [.int .u8 0, .int .i64 0] 33 := by rw [hX]; exact RowAt.new _ _ _
  have hlx := RowAt.lt rx
  go_enter Tryz.func22, Tryz.ntmps22
  go_upto_region 1 with fail
  rw [← hX]
  clear hX
  obtain ⟨y0, y1, yf⟩ := cells2 rx
  go_wp2_with fail
  refine bodyPost_ret (v := .tuple #[.agg #[.int .u8 0, .int .i64 0], .string ⟨#[]⟩, .int .i64 7]) ?_ rfl ⟨rfl, ?_⟩
  any_goals (rw [results_cell_tmp2 rfl]; go_simp)
  all_goals (repeat' (first | with_reducible exact hB | with_reducible apply below_drew | with_reducible refine bset ?_ (by omega)))
set_option maxHeartbeats 4000000 in
theorem rgetAction_no (b : UInt8) (t : List UInt8) (w : World) (hb : ¬ b.toNat = 1) (c1 : ∀ W : World, Calls Tryz.prog 38 #[.agg #[.int .u8 (b.toNat : Int), .int .i64 0]] W fun e w' => e = .returned (.bool false) ∧ Below W.heap.size W w') :
    Calls Tryz.prog 22 #[.string ⟨(b :: t).toArray⟩] w fun e w' => e = .returned (.tuple #[.agg #[.int .u8 0, .int .i64 0], .string ⟨#[]⟩, .int .i64 7]) ∧ Below w.heap.size w w' := by
  have hsz : (⟨(b :: t).toArray⟩ : ByteArray).size = t.length + 1 := by simp [ByteArray.size]
  obtain ⟨S, hS⟩ : ∃ S, S = (⟨(b :: t).toArray⟩ : ByteArray) := ⟨_, rfl⟩
  have hdr : S.extract 1 (t.length + 1) = ⟨t.toArray⟩ := by
    rw [hS]
    apply ByteArray.ext
    simp
  have h0 : ∀ h : 0 < S.size, S[0]'h = b := by
    subst hS
    intro h
    rfl
  rw [← hS] at hsz ⊢
  have hne : S.toList.isEmpty = false := by rw [hS, ByteArray.toList_eq]; rfl
  obtain ⟨X, hX⟩ : ∃ X, X = w.alloc (.cells #[.int .u8 0, .int .i64 0] 33) := ⟨_, rfl⟩
  have hB : Below w.heap.size w X := by rw [hX]; exact below_new (Below.refl _ _) _
  have rx : RowAt X w.heap.size [.int .u8 0, .int .i64 0] 33 := by rw [hX]; exact RowAt.new _ _ _
  clear hS
  generalize (⟨t.toArray⟩ : ByteArray) = T at *
  go_enter Tryz.func22, Tryz.ntmps22
  go_upto_region 1 with fail
  rw [← hX]
  clear hX
  have hlx := RowAt.lt rx
  obtain ⟨gx, hgx⟩ : ∃ g, g = w.heap.size := ⟨_, rfl⟩
  have hgw : w.heap.size ≤ gx := by omega
  rw [← hgx] at rx hlx ⊢
  clear hgx
  obtain ⟨y0, y1, yf⟩ := cells2 rx
  go_upto_region 3 with fail
  go_upto_region 5 with fail
  obtain ⟨Y, hY⟩ : ∃ Y, Y = X.alloc (.cells #[.int .u8 (b.toNat : Int), .int .i64 0] 33) := ⟨_, rfl⟩
  have hbY : Below X.heap.size X Y := by rw [hY]; exact below_new (Below.refl _ _) _
  have rt : RowAt Y X.heap.size [.int .u8 (b.toNat : Int), .int .i64 0] 33 := by rw [hY]; exact RowAt.new _ _ _
  rw [← hY]
  replace rx := RowAt.below rx hbY
  replace hB := below2 hB hbY
  clear hY hbY y0 y1 yf hdr h0 hne hsz
  generalize X.heap.size = gt at rt hlx ⊢
  obtain ⟨y0, y1, yf⟩ := cells2 rx
  obtain ⟨u0, u1, uf⟩ := cells2 rt
  have hb1 : ((b.toNat : Int) == 1) = false := beq_eq_false_iff_ne.2 (by omega)
  have hb2 : (b.toNat == 1) = false := beq_eq_false_iff_ne.2 hb
  generalize (b.toNat : Int) = k at *
  go_wp2_with fail
  go_at_call 38; refine (c1 _).mono ?_; rintro e w1 ⟨rfl, hbq⟩
  replace rx := RowAt.below rx hbq
  replace rt := RowAt.below rt hbq
  replace hB := below2 hB hbq
  clear y0 y1 yf u0 u1 uf hbq
  obtain ⟨y0, y1, yf⟩ := cells2 rx
  obtain ⟨u0, u1, uf⟩ := cells2 rt
  have hlr := RowAt.lt rx
  go_wp2_with fail
  refine bodyPost_ret (v := .tuple #[.agg #[.int .u8 0, .int .i64 0], .string ⟨#[]⟩, .int .i64 7]) ?_ rfl ⟨rfl, ?_⟩
  any_goals (rw [results_cell_tmp2 rfl]; go_simp)
  all_goals (repeat' (first | with_reducible exact hB | with_reducible apply below_drew | with_reducible refine bset ?_ (by omega)))
set_option maxHeartbeats 4000000 in
theorem rgetAction_yes (b : UInt8) (t : List UInt8) (w : World) (hb : ¬ b.toNat = 1) (c1 : ∀ W : World, Calls Tryz.prog 38 #[.agg #[.int .u8 (b.toNat : Int), .int .i64 0]] W fun e w' => e = .returned (.bool true) ∧ Below W.heap.size W w') :
    Calls Tryz.prog 22 #[.string ⟨(b :: t).toArray⟩] w fun e w' => e = .returned (.tuple #[.agg #[.int .u8 (b.toNat : Int), .int .i64 0], .string ⟨t.toArray⟩, .int .i64 0]) ∧ Below w.heap.size w w' := by
  have hsz : (⟨(b :: t).toArray⟩ : ByteArray).size = t.length + 1 := by simp [ByteArray.size]
  obtain ⟨S, hS⟩ : ∃ S, S = (⟨(b :: t).toArray⟩ : ByteArray) := ⟨_, rfl⟩
  have hdr : S.extract 1 (t.length + 1) = ⟨t.toArray⟩ := by
    rw [hS]
    apply ByteArray.ext
    simp
  have h0 : ∀ h : 0 < S.size, S[0]'h = b := by
    subst hS
    intro h
    rfl
  rw [← hS] at hsz ⊢
  have hne : S.toList.isEmpty = false := by rw [hS, ByteArray.toList_eq]; rfl
  obtain ⟨X, hX⟩ : ∃ X, X = w.alloc (.cells #[.int .u8 0, .int .i64 0] 33) := ⟨_, rfl⟩
  have hB : Below w.heap.size w X := by rw [hX]; exact below_new (Below.refl _ _) _
  have rx : RowAt X w.heap.size [.int .u8 0, .int .i64 0] 33 := by rw [hX]; exact RowAt.new _ _ _
  clear hS
  generalize (⟨t.toArray⟩ : ByteArray) = T at *
  go_enter Tryz.func22, Tryz.ntmps22
  go_upto_region 1 with fail
  rw [← hX]
  clear hX
  have hlx := RowAt.lt rx
  obtain ⟨gx, hgx⟩ : ∃ g, g = w.heap.size := ⟨_, rfl⟩
  have hgw : w.heap.size ≤ gx := by omega
  rw [← hgx] at rx hlx ⊢
  clear hgx
  obtain ⟨y0, y1, yf⟩ := cells2 rx
  go_upto_region 3 with fail
  go_upto_region 5 with fail
  obtain ⟨Y, hY⟩ : ∃ Y, Y = X.alloc (.cells #[.int .u8 (b.toNat : Int), .int .i64 0] 33) := ⟨_, rfl⟩
  have hbY : Below X.heap.size X Y := by rw [hY]; exact below_new (Below.refl _ _) _
  have rt : RowAt Y X.heap.size [.int .u8 (b.toNat : Int), .int .i64 0] 33 := by rw [hY]; exact RowAt.new _ _ _
  rw [← hY]
  replace rx := RowAt.below rx hbY
  replace hB := below2 hB hbY
  clear hY hbY y0 y1 yf hdr h0 hne hsz
  generalize X.heap.size = gt at rt hlx ⊢
  obtain ⟨y0, y1, yf⟩ := cells2 rx
  obtain ⟨u0, u1, uf⟩ := cells2 rt
  have hb1 : ((b.toNat : Int) == 1) = false := beq_eq_false_iff_ne.2 (by omega)
  have hb2 : (b.toNat == 1) = false := beq_eq_false_iff_ne.2 hb
  go_wp2_with fail
  go_at_call 38; refine (c1 _).mono ?_; rintro e w1 ⟨rfl, hbq⟩
  replace rx := RowAt.below rx hbq
  replace rt := RowAt.below rt hbq
  replace hB := below2 hB hbq
  clear y0 y1 yf u0 u1 uf hbq
  obtain ⟨y0, y1, yf⟩ := cells2 rx
  obtain ⟨u0, u1, uf⟩ := cells2 rt
  have hlr := RowAt.lt rx
  go_wp2_with fail
  refine bodyPost_ret (v := .tuple #[.agg #[.int .u8 (b.toNat : Int), .int .i64 0], .string T, .int .i64 0]) ?_ rfl ⟨rfl, ?_⟩
  any_goals (rw [results_cell_tmp2 rfl]; go_simp)
  all_goals (repeat' (first | with_reducible exact hB | with_reducible apply below_drew | with_reducible refine bset ?_ (by omega)))
set_option maxHeartbeats 4000000 in
theorem rgetAction_err (t : List UInt8) (w : World) (n : Nat) (R : ByteArray) (y : Int)
    (c2 : ∀ W : World, Calls Tryz.prog 33 #[.string ⟨t.toArray⟩] W fun e w' => e = .returned (.tuple #[.int .u64 (n : Int), .string R, .int .i64 y]) ∧ Below W.heap.size W w')
    (hy : y ≠ 0) :
    Calls Tryz.prog 22 #[.string ⟨(1 :: t).toArray⟩] w fun e w' => e = .returned (.tuple #[.agg #[.int .u8 0, .int .i64 0], .string ⟨#[]⟩, .int .i64 7]) ∧ Below w.heap.size w w' := by
  have hsz : (⟨(1 :: t).toArray⟩ : ByteArray).size = t.length + 1 := by simp [ByteArray.size]
  obtain ⟨S, hS⟩ : ∃ S, S = (⟨(1 :: t).toArray⟩ : ByteArray) := ⟨_, rfl⟩
  have hdr : S.extract 1 (t.length + 1) = ⟨t.toArray⟩ := by
    rw [hS]
    apply ByteArray.ext
    simp
  have h0 : ∀ h : 0 < S.size, S[0]'h = 1 := by
    subst hS
    intro h
    rfl
  rw [← hS] at hsz ⊢
  have hne : S.toList.isEmpty = false := by rw [hS, ByteArray.toList_eq]; rfl
  obtain ⟨X, hX⟩ : ∃ X, X = w.alloc (.cells #[.int .u8 0, .int .i64 0] 33) := ⟨_, rfl⟩
  have hB : Below w.heap.size w X := by rw [hX]; exact below_new (Below.refl _ _) _
  have rx : RowAt X w.heap.size [.int .u8 0, .int .i64 0] 33 := by rw [hX]; exact RowAt.new _ _ _
  clear hS
  generalize (⟨t.toArray⟩ : ByteArray) = T at *
  go_enter Tryz.func22, Tryz.ntmps22
  go_upto_region 1 with fail
  rw [← hX]
  clear hX
  have hlx := RowAt.lt rx
  obtain ⟨gx, hgx⟩ : ∃ g, g = w.heap.size := ⟨_, rfl⟩
  have hgw : w.heap.size ≤ gx := by omega
  rw [← hgx] at rx hlx ⊢
  clear hgx
  obtain ⟨y0, y1, yf⟩ := cells2 rx
  go_upto_region 3 with fail
  go_upto_region 5 with fail
  obtain ⟨Y, hY⟩ : ∃ Y, Y = X.alloc (.cells #[.int .u8 1, .int .i64 0] 33) := ⟨_, rfl⟩
  have hbY : Below X.heap.size X Y := by rw [hY]; exact below_new (Below.refl _ _) _
  have rt : RowAt Y X.heap.size [.int .u8 1, .int .i64 0] 33 := by rw [hY]; exact RowAt.new _ _ _
  rw [← hY]
  replace rx := RowAt.below rx hbY
  replace hB := below2 hB hbY
  clear hY hbY y0 y1 yf hdr h0 hne hsz
  generalize X.heap.size = gt at rt hlx ⊢
  obtain ⟨y0, y1, yf⟩ := cells2 rx
  obtain ⟨u0, u1, uf⟩ := cells2 rt
  go_wp2_with fail
  go_at_call 33; refine (c2 _).mono ?_; rintro e w1 ⟨rfl, hbq⟩
  replace rx := RowAt.below rx hbq
  replace rt := RowAt.below rt hbq
  replace hB := below2 hB hbq
  clear y0 y1 yf u0 u1 uf hbq
  obtain ⟨y0, y1, yf⟩ := cells2 rx
  obtain ⟨u0, u1, uf⟩ := cells2 rt
  have hlr := RowAt.lt rx
  have hlt := RowAt.lt rt
  have q1 : (y == 0) = false := beq_eq_false_iff_ne.2 hy
  have q2 : (y != 0) = true := bne_iff_ne.2 hy
  go_wp2_with fail
  refine bodyPost_ret (v := .tuple #[.agg #[.int .u8 0, .int .i64 0], .string ⟨#[]⟩, .int .i64 7]) ?_ rfl ⟨rfl, ?_⟩
  any_goals (rw [results_cell_tmp2 rfl]; go_simp)
  all_goals (repeat' (first | with_reducible exact hB | with_reducible apply below_drew | with_reducible refine bset ?_ (by omega)))
set_option maxHeartbeats 4000000 in
theorem rgetAction_big (t : List UInt8) (w : World) (n : Nat) (R : ByteArray) (y : Int)
    (c2 : ∀ W : World, Calls Tryz.prog 33 #[.string ⟨t.toArray⟩] W fun e w' => e = .returned (.tuple #[.int .u64 (n : Int), .string R, .int .i64 y]) ∧ Below W.heap.size W w')
    (hy : y = 0) (hn : 65536 < n) :
    Calls Tryz.prog 22 #[.string ⟨(1 :: t).toArray⟩] w fun e w' => e = .returned (.tuple #[.agg #[.int .u8 0, .int .i64 0], .string ⟨#[]⟩, .int .i64 7]) ∧ Below w.heap.size w w' := by
  subst hy
  have hsz : (⟨(1 :: t).toArray⟩ : ByteArray).size = t.length + 1 := by simp [ByteArray.size]
  obtain ⟨S, hS⟩ : ∃ S, S = (⟨(1 :: t).toArray⟩ : ByteArray) := ⟨_, rfl⟩
  have hdr : S.extract 1 (t.length + 1) = ⟨t.toArray⟩ := by
    rw [hS]
    apply ByteArray.ext
    simp
  have h0 : ∀ h : 0 < S.size, S[0]'h = 1 := by
    subst hS
    intro h
    rfl
  rw [← hS] at hsz ⊢
  have hne : S.toList.isEmpty = false := by rw [hS, ByteArray.toList_eq]; rfl
  obtain ⟨X, hX⟩ : ∃ X, X = w.alloc (.cells #[.int .u8 0, .int .i64 0] 33) := ⟨_, rfl⟩
  have hB : Below w.heap.size w X := by rw [hX]; exact below_new (Below.refl _ _) _
  have rx : RowAt X w.heap.size [.int .u8 0, .int .i64 0] 33 := by rw [hX]; exact RowAt.new _ _ _
  clear hS
  generalize (⟨t.toArray⟩ : ByteArray) = T at *
  go_enter Tryz.func22, Tryz.ntmps22
  go_upto_region 1 with fail
  rw [← hX]
  clear hX
  have hlx := RowAt.lt rx
  obtain ⟨gx, hgx⟩ : ∃ g, g = w.heap.size := ⟨_, rfl⟩
  have hgw : w.heap.size ≤ gx := by omega
  rw [← hgx] at rx hlx ⊢
  clear hgx
  obtain ⟨y0, y1, yf⟩ := cells2 rx
  go_upto_region 3 with fail
  go_upto_region 5 with fail
  obtain ⟨Y, hY⟩ : ∃ Y, Y = X.alloc (.cells #[.int .u8 1, .int .i64 0] 33) := ⟨_, rfl⟩
  have hbY : Below X.heap.size X Y := by rw [hY]; exact below_new (Below.refl _ _) _
  have rt : RowAt Y X.heap.size [.int .u8 1, .int .i64 0] 33 := by rw [hY]; exact RowAt.new _ _ _
  rw [← hY]
  replace rx := RowAt.below rx hbY
  replace hB := below2 hB hbY
  clear hY hbY y0 y1 yf hdr h0 hne hsz
  generalize X.heap.size = gt at rt hlx ⊢
  obtain ⟨y0, y1, yf⟩ := cells2 rx
  obtain ⟨u0, u1, uf⟩ := cells2 rt
  go_wp2_with fail
  go_at_call 33; refine (c2 _).mono ?_; rintro e w1 ⟨rfl, hbq⟩
  replace rx := RowAt.below rx hbq
  replace rt := RowAt.below rt hbq
  replace hB := below2 hB hbq
  clear y0 y1 yf u0 u1 uf hbq
  obtain ⟨y0, y1, yf⟩ := cells2 rx
  obtain ⟨u0, u1, uf⟩ := cells2 rt
  have hlr := RowAt.lt rx
  have hlt := RowAt.lt rt
  have q1 : decide ((65536 : Int) < (n : Int)) = true := decide_eq_true (by omega)
  have q2 : decide (65536 < n) = true := decide_eq_true hn
  go_wp2_with fail
  refine bodyPost_ret (v := .tuple #[.agg #[.int .u8 0, .int .i64 0], .string ⟨#[]⟩, .int .i64 7]) ?_ rfl ⟨rfl, ?_⟩
  any_goals (rw [results_cell_tmp2 rfl]; go_simp)
  all_goals (repeat' (first | with_reducible exact hB | with_reducible apply below_drew | with_reducible refine bset ?_ (by omega)))
end Go.Proofs.YtopabkkapbaibaaGreat.Msg
namespace Go.Proofs.YtopabkkapbaibaaGreat.Msg
open Go.RowKit
open Go.Proofs.YtopabkkapbaibaaGreat.Addr (Pf okP checkP wideN firstN kP hiN loN adV pfV RowAt below2 below_drew below_new bset RowAt.lt RowAt.cell RowAt.frozen RowAt.below RowAt.drew RowAt.new RowAt.alloc gdrew gset gbelow galloc grefl cells2 cells4 results_cell)
set_option maxHeartbeats 4000000 in
theorem rgetAction_one (t : List UInt8) (w : World) (n : Nat) (R : ByteArray) (y : Int)
    (c2 : ∀ W : World, Calls Tryz.prog 33 #[.string ⟨t.toArray⟩] W fun e w' => e = .returned (.tuple #[.int .u64 (n : Int), .string R, .int .i64 y]) ∧ Below W.heap.size W w')
    (c1 : ∀ W : World, Calls Tryz.prog 38 #[.agg #[.int .u8 1, .int .i64 (n : Int)]] W fun e w' => e = .returned (.bool true) ∧ Below W.heap.size W w')
    (hy : y = 0) (hn : n ≤ 65536) :
    Calls Tryz.prog 22 #[.string ⟨(1 :: t).toArray⟩] w fun e w' => e = .returned (.tuple #[.agg #[.int .u8 1, .int .i64 (n : Int)], .string R, .int .i64 0]) ∧ Below w.heap.size w w' := by
  subst hy
  have hsz : (⟨(1 :: t).toArray⟩ : ByteArray).size = t.length + 1 := by simp [ByteArray.size]
  obtain ⟨S, hS⟩ : ∃ S, S = (⟨(1 :: t).toArray⟩ : ByteArray) := ⟨_, rfl⟩
  have hdr : S.extract 1 (t.length + 1) = ⟨t.toArray⟩ := by
    rw [hS]
    apply ByteArray.ext
    simp
  have h0 : ∀ h : 0 < S.size, S[0]'h = 1 := by
    subst hS
    intro h
    rfl
  rw [← hS] at hsz ⊢
  have hne : S.toList.isEmpty = false := by rw [hS, ByteArray.toList_eq]; rfl
  obtain ⟨X, hX⟩ : ∃ X, X = w.alloc (.cells #[.int .u8 0, .int .i64 0] 33) := ⟨_, rfl⟩
  have hB : Below w.heap.size w X := by rw [hX]; exact below_new (Below.refl _ _) _
  have rx : RowAt X w.heap.size [.int .u8 0, .int .i64 0] 33 := by rw [hX]; exact RowAt.new _ _ _
  clear hS
  generalize (⟨t.toArray⟩ : ByteArray) = T at *
  go_enter Tryz.func22, Tryz.ntmps22
  go_upto_region 1 with fail
  rw [← hX]
  clear hX
  have hlx := RowAt.lt rx
  obtain ⟨gx, hgx⟩ : ∃ g, g = w.heap.size := ⟨_, rfl⟩
  have hgw : w.heap.size ≤ gx := by omega
  rw [← hgx] at rx hlx ⊢
  clear hgx
  obtain ⟨y0, y1, yf⟩ := cells2 rx
  go_upto_region 3 with fail
  go_upto_region 5 with fail
  obtain ⟨Y, hY⟩ : ∃ Y, Y = X.alloc (.cells #[.int .u8 1, .int .i64 0] 33) := ⟨_, rfl⟩
  have hbY : Below X.heap.size X Y := by rw [hY]; exact below_new (Below.refl _ _) _
  have rt : RowAt Y X.heap.size [.int .u8 1, .int .i64 0] 33 := by rw [hY]; exact RowAt.new _ _ _
  rw [← hY]
  replace rx := RowAt.below rx hbY
  replace hB := below2 hB hbY
  clear hY hbY y0 y1 yf hdr h0 hne hsz
  generalize X.heap.size = gt at rt hlx ⊢
  obtain ⟨y0, y1, yf⟩ := cells2 rx
  obtain ⟨u0, u1, uf⟩ := cells2 rt
  go_wp2_with fail
  go_at_call 33; refine (c2 _).mono ?_; rintro e w1 ⟨rfl, hbq⟩
  replace rx := RowAt.below rx hbq
  replace rt := RowAt.below rt hbq
  replace hB := below2 hB hbq
  clear y0 y1 yf u0 u1 uf hbq
  obtain ⟨y0, y1, yf⟩ := cells2 rx
  obtain ⟨u0, u1, uf⟩ := cells2 rt
  have hlr := RowAt.lt rx
  have hlt := RowAt.lt rt
  have q1 : decide ((65536 : Int) < (n : Int)) = false := decide_eq_false (by omega)
  have q2 : decide (65536 < n) = false := decide_eq_false (by omega)
  have q3 : IntKind.i64.wrap (n : Int) = (n : Int) := by rw [IntKind.wrap_i64]; omega
  have rt2 := set1 rt 1 (.int .i64 (n : Int))
  have rx2 := gkeep rx (gsetO w1 gt 1 (.int .i64 (n : Int))) (by omega)
  have hB2 : Below w.heap.size w (w1.setCell ⟨gt, 1, none⟩ (.int .i64 (n : Int))) := bset hB (by omega)
  go_upto_region 10 with fail
  clear y0 y1 yf u0 u1 uf
  generalize w1.setCell ⟨gt, 1, none⟩ (.int .i64 (n : Int)) = V at *
  simp only [List.set_cons_succ, List.set_cons_zero] at rt2
  obtain ⟨u0, u1, uf⟩ := cells2 rt2
  go_wp2_with fail
  go_at_call 38; refine (c1 _).mono ?_; rintro e w3 ⟨rfl, hbq⟩
  replace rx2 := RowAt.below rx2 hbq
  replace rt2 := RowAt.below rt2 hbq
  replace hB2 := below2 hB2 hbq
  clear u0 u1 uf hbq
  obtain ⟨y0, y1, yf⟩ := cells2 rx2
  obtain ⟨u0, u1, uf⟩ := cells2 rt2
  have hlr2 := RowAt.lt rx2
  go_wp2_with fail
  refine bodyPost_ret (v := .tuple #[.agg #[.int .u8 1, .int .i64 (n : Int)], .string R, .int .i64 0]) ?_ rfl ⟨rfl, ?_⟩
  any_goals (rw [results_cell_tmp2 rfl]; go_simp)
  all_goals (repeat' (first | with_reducible exact hB2 | with_reducible apply below_drew | with_reducible refine bset ?_ (by omega)))
theorem rgetAction_any (s : List UInt8) (w : World) (hs : (s.length : Int) ≤ 200000000000000) :
    Calls Tryz.prog 22 #[.string ⟨s.toArray⟩] w fun e w' => e = .returned (.tuple #[acV (firstP rdA okA zeroA s).1, .string ⟨(firstP rdA okA zeroA s).2.1.toArray⟩, .int .i64 (firstP rdA okA zeroA s).2.2]) ∧ Below w.heap.size w w' := by
  cases s with
  | nil => rw [firstA_nil]; exact rgetAction_nil w
  | cons b t =>
    have hl : t.length ≤ 200000000000000 := by rw [List.length_cons] at hs; omega
    have hb8 := b.toNat_lt
    by_cases hb : b.toNat = 1
    · have e1 : b = 1 := by apply UInt8.toNat_inj.1; exact hb
      subst e1
      have c2 := fun W : World => rget_list t W hl
      have hr := rdN_get t
      by_cases hy : (getGo 0 0 t).2.2 = 0
      · rw [if_pos hy] at hr
        by_cases hn : (getGo 0 0 t).1 ≤ 65536
        · rw [firstA_one hr hn]
          refine rgetAction_one t w _ _ _ c2 ?_ hy hn
          intro W
          have := acts_any ⟨1, ((getGo 0 0 t).1 : Int)⟩ W ⟨by show (1 : Int) ≤ 255; omega, by show (-9223372036854775808 : Int) ≤ ((getGo 0 0 t).1 : Int); omega, by show ((getGo 0 0 t).1 : Int) ≤ 9223372036854775807; omega⟩
          rw [show okA ⟨1, ((getGo 0 0 t).1 : Int)⟩ = true from by unfold okA; simp; omega] at this
          exact this
        · rw [firstA_far hr (by omega)]
          exact rgetAction_big t w _ _ _ c2 hy (by omega)
      · rw [if_neg hy] at hr
        rw [firstA_none hr]
        exact rgetAction_err t w _ _ _ c2 hy
    · rw [firstA_other hb]
      have c1 := fun W : World => acts_any ⟨b.toNat, 0⟩ W ⟨by show (b.toNat : Int) ≤ 255; omega, by show (-9223372036854775808 : Int) ≤ 0; omega, by show (0 : Int) ≤ 9223372036854775807; omega⟩
      cases hok : okA ⟨b.toNat, 0⟩ with
      | false => rw [hok] at c1; exact rgetAction_no b t w hb c1
      | true => rw [hok] at c1; exact rgetAction_yes b t w hb c1
end Go.Proofs.YtopabkkapbaibaaGreat.Msg
namespace Go.Proofs.YtopabkkapbaibaaGreat.Msg
open Go.RowKit
open Go.Proofs.YtopabkkapbaibaaGreat.Addr (Pf okP checkP wideN firstN kP hiN loN adV pfV RowAt below2 below_drew below_new bset RowAt.lt RowAt.cell RowAt.frozen RowAt.below RowAt.drew RowAt.new RowAt.alloc gdrew gset gbelow galloc grefl gfinal cells2 cells4 results_cell Bl bl_ne wp_region_bl bl_call bl_same)

/-- the document's reader: what is left, and whether all was right -/
def numS (most : Nat) (l : List UInt8) (ok : Bool) : Nat × List UInt8 × Bool := if (getGo 0 0 l).2.2 = 0 ∧ (getGo 0 0 l).1 ≤ most then ((getGo 0 0 l).1, (getGo 0 0 l).2.1, ok) else (0, l, false)
theorem num_walk (g : Nat) (S R : ByteArray) (ok : Bool) (m n : Nat) (y : Int) (W : World) (h : RowAt W g [.string S, .bool ok] 61)
    (cG : ∀ W : World, Calls Tryz.prog 33 #[.string S] W fun e w' => e = .returned (.tuple #[.int .u64 (n : Int), .string R, .int .i64 y]) ∧ Below W.heap.size W w')
    (T : ByteArray) (v : Nat) (o : Bool) (H1 : y = 0 ∧ n ≤ m → Hid (T = R ∧ v = n ∧ o = ok)) (H2 : ¬ (y = 0 ∧ n ≤ m) → Hid (T = S ∧ v = 0 ∧ o = false)) :
    Calls Tryz.prog 20 #[.pointer (some ⟨g, 0, none⟩), .int .u64 (m : Int)] W fun e w' => e = .returned (.int .u64 (v : Int)) ∧ RowAt w' g [.string T, .bool o] 61 ∧ W.grownBy w' (some g) := by
  obtain ⟨x0, x1, xf⟩ := cells2 h
  have hlt := RowAt.lt h
  by_cases hy : y = 0
  · subst hy
    by_cases hn : n ≤ m
    · obtain ⟨rfl, rfl, rfl⟩ := (H1 ⟨rfl, hn⟩).out
      have q1 : decide ((m : Int) < (v : Int)) = false := decide_eq_false (by omega)
      have q2 : decide (m < v) = false := decide_eq_false (by omega)
      clear H1 H2
      go_enter Tryz.func20, Tryz.ntmps20
      go_wp2_with fail
      go_at_call 33; refine (cG _).mono ?_; rintro e w1 ⟨rfl, hb⟩
      replace h := RowAt.below h hb
      clear x0 x1 xf hlt
      obtain ⟨x0, x1, xf⟩ := cells2 h
      have hlt := RowAt.lt h
      have hs : RowAt (w1.setCell ⟨g, 0, none⟩ (.string T)) g [.string T, .bool o] 61 := set1 h 0 _
      go_wp2_with fail
      go_ret
      exact ⟨rfl, hs, gset (gbelow (grefl _ _) hb)⟩
    · obtain ⟨rfl, rfl, rfl⟩ := (H2 (fun c => hn c.2)).out
      have q1 : decide ((m : Int) < (n : Int)) = true := decide_eq_true (by omega)
      have q2 : decide (m < n) = true := decide_eq_true (by omega)
      clear H1 H2
      go_enter Tryz.func20, Tryz.ntmps20
      go_wp2_with fail
      go_at_call 33; refine (cG _).mono ?_; rintro e w1 ⟨rfl, hb⟩
      replace h := RowAt.below h hb
      clear x0 x1 xf hlt
      obtain ⟨x0, x1, xf⟩ := cells2 h
      have hlt := RowAt.lt h
      have hs : RowAt (w1.setCell ⟨g, 1, none⟩ (.bool false)) g [.string T, .bool false] 61 := set1 h 1 _
      go_wp2_with fail
      go_ret
      exact ⟨rfl, hs, gset (gbelow (grefl _ _) hb)⟩
  · obtain ⟨rfl, rfl, rfl⟩ := (H2 (fun c => hy c.1)).out
    have q1 : (y == 0) = false := beq_eq_false_iff_ne.2 hy
    have q2 : (y != 0) = true := bne_iff_ne.2 hy
    clear H1 H2 hy
    go_enter Tryz.func20, Tryz.ntmps20
    go_wp2_with fail
    go_at_call 33; refine (cG _).mono ?_; rintro e w1 ⟨rfl, hb⟩
    replace h := RowAt.below h hb
    clear x0 x1 xf hlt
    obtain ⟨x0, x1, xf⟩ := cells2 h
    have hlt := RowAt.lt h
    have hs : RowAt (w1.setCell ⟨g, 1, none⟩ (.bool false)) g [.string T, .bool false] 61 := set1 h 1 _
    go_wp2_with fail
    go_ret
    exact ⟨rfl, hs, gset (gbelow (grefl _ _) hb)⟩
theorem num_any (g : Nat) (l : List UInt8) (ok : Bool) (m : Nat) (W : World) (h : RowAt W g [.string ⟨l.toArray⟩, .bool ok] 61) (hl : l.length ≤ 200000000000000) :
    Calls Tryz.prog 20 #[.pointer (some ⟨g, 0, none⟩), .int .u64 (m : Int)] W fun e w' => e = .returned (.int .u64 ((numS m l ok).1 : Int)) ∧ RowAt w' g [.string ⟨(numS m l ok).2.1.toArray⟩, .bool (numS m l ok).2.2] 61 ∧ W.grownBy w' (some g) := by
  refine num_walk g _ _ ok m _ _ W h (fun W => rget_list l W hl) _ _ _ ?_ ?_
  · intro hc
    show _ ∧ _ ∧ _
    unfold numS
    rw [if_pos hc]
    exact ⟨rfl, rfl, rfl⟩
  · intro hc
    show _ ∧ _ ∧ _
    unfold numS
    rw [if_neg hc]
    exact ⟨rfl, rfl, rfl⟩
/-- the boxes of Get: its result, the reader, the event -/
structure RG (w V : World) (g2 g4 g5 : Nat) (T : ByteArray) (ok : Bool) (cs : List Value) : Prop where
  r2 : RowAt V g2 [.int .u8 0, .int .i64 0, .int .u64 0, .int .i64 0, .bool false, .int .u64 0, .int .u64 0, .int .i64 0, .int .u8 0, .int .i64 0, .int .i64 0, .int .i64 0] 35
  r4 : RowAt V g4 [.string T, .bool ok] 61
  r5 : RowAt V g5 cs 35
  hB : Below w.heap.size w V
  h2 : w.heap.size ≤ g2
  h4 : g2 < g4
  h5 : g4 < g5
theorem RG.num {w V V' : World} {g2 g4 g5 : Nat} {T T' : ByteArray} {ok ok' : Bool} {cs : List Value} (h : RG w V g2 g4 g5 T ok cs) (hr : RowAt V' g4 [.string T', .bool ok'] 61) (hg : V.grownBy V' (some g4)) : RG w V' g2 g4 g5 T' ok' cs := by
  obtain ⟨r2, r4, r5, hB, h2, h4, h5⟩ := h
  exact ⟨gkeep r2 hg (by omega), hr, gkeep r5 hg (by omega), gfinal hB hg (by omega), h2, h4, h5⟩
theorem RG.set {w V : World} {g2 g4 g5 : Nat} {T : ByteArray} {ok : Bool} {cs : List Value} (h : RG w V g2 g4 g5 T ok cs) (k : Nat) (v : Value) : RG w (V.setCell ⟨g5, k, none⟩ v) g2 g4 g5 T ok (cs.set k v) := by
  obtain ⟨r2, r4, r5, hB, h2, h4, h5⟩ := h
  exact ⟨gkeep r2 (gsetO _ _ _ _) (by omega), gkeep r4 (gsetO _ _ _ _) (by omega), set1 r5 k v, bset hB (by omega), h2, h4, h5⟩
theorem RG.set4 {w V : World} {g2 g4 g5 : Nat} {T : ByteArray} {ok : Bool} {cs : List Value} (h : RG w V g2 g4 g5 T ok cs) (T' : ByteArray) : RG w (V.setCell ⟨g4, 0, none⟩ (.string T')) g2 g4 g5 T' ok cs := by
  obtain ⟨r2, r4, r5, hB, h2, h4, h5⟩ := h
  exact ⟨gkeep r2 (gsetO _ _ _ _) (by omega), set1 r4 0 _, gkeep r5 (gsetO _ _ _ _) (by omega), bset hB (by omega), h2, h4, h5⟩
theorem RG.set4b {w V : World} {g2 g4 g5 : Nat} {T : ByteArray} {ok : Bool} {cs : List Value} (h : RG w V g2 g4 g5 T ok cs) (o : Bool) : RG w (V.setCell ⟨g4, 1, none⟩ (.bool o)) g2 g4 g5 T o cs := by
  obtain ⟨r2, r4, r5, hB, h2, h4, h5⟩ := h
  exact ⟨gkeep r2 (gsetO _ _ _ _) (by omega), set1 r4 1 _, gkeep r5 (gsetO _ _ _ _) (by omega), bset hB (by omega), h2, h4, h5⟩
theorem RG.below {w V V' : World} {g2 g4 g5 : Nat} {T : ByteArray} {ok : Bool} {cs : List Value} (h : RG w V g2 g4 g5 T ok cs) (hb : Below V.heap.size V V') : RG w V' g2 g4 g5 T ok cs := by
  obtain ⟨r2, r4, r5, hB, h2, h4, h5⟩ := h
  exact ⟨RowAt.below r2 hb, RowAt.below r4 hb, RowAt.below r5 hb, below2 hB hb, h2, h4, h5⟩
theorem RG.drew {w V : World} {g2 g4 g5 : Nat} {T : ByteArray} {ok : Bool} {cs : List Value} (h : RG w V g2 g4 g5 T ok cs) : RG w V.drew g2 g4 g5 T ok cs := by
  obtain ⟨r2, r4, r5, hB, h2, h4, h5⟩ := h
  exact ⟨r2.drew, r4.drew, r5.drew, below_drew hB, h2, h4, h5⟩
end Go.Proofs.YtopabkkapbaibaaGreat.Msg
namespace Go.Proofs.YtopabkkapbaibaaGreat.Msg
open Go.RowKit
open Go.Proofs.YtopabkkapbaibaaGreat.Addr (Pf okP checkP wideN firstN kP hiN loN adV pfV RowAt below2 below_drew below_new bset RowAt.lt RowAt.cell RowAt.frozen RowAt.below RowAt.drew RowAt.new RowAt.alloc gdrew gset gbelow galloc grefl gfinal cells2 cells4 results_cell Bl bl_ne wp_region_bl bl_call bl_same)

theorem toList_inj {a b : ByteArray} (h : a.toList = b.toList) : a = b := by
  rw [ByteArray.toList_eq, ByteArray.toList_eq] at h
  exact ByteArray.ext (Array.ext' h)
set_option maxRecDepth 20000 in
set_option maxHeartbeats 8000000 in
theorem rget_o (S T : ByteArray) (w : World) (kb : UInt8) (hs : 1 ≤ (S.size : Int)) (h0 : ∀ h : 0 < S.size, S[0]'h = kb) (hx : S.extract 1 S.size = T) (hne : S.toList.isEmpty = false) (a b c : Nat) (TT : ByteArray) (wy : Int) (T1 T2 T3 : ByteArray) (o1 o2 o3 : Bool) (k : Nat)
    (n1 : ∀ (g : Nat) (W : World), RowAt W g [.string T, .bool true] 61 → Calls Tryz.prog 20 #[.pointer (some ⟨g, 0, none⟩), .int .u64 1048576] W fun e w' => e = .returned (.int .u64 (a : Int)) ∧ RowAt w' g [.string T1, .bool o1] 61 ∧ W.grownBy w' (some g))
    (n2 : ∀ (g : Nat) (W : World), RowAt W g [.string T1, .bool o1] 61 → Calls Tryz.prog 20 #[.pointer (some ⟨g, 0, none⟩), .int .u64 1099511627776] W fun e w' => e = .returned (.int .u64 (b : Int)) ∧ RowAt w' g [.string T2, .bool o2] 61 ∧ W.grownBy w' (some g))
    (n3 : ∀ (g : Nat) (W : World), RowAt W g [.string T2, .bool o2] 61 → Calls Tryz.prog 20 #[.pointer (some ⟨g, 0, none⟩), .int .u64 1099511627776] W fun e w' => e = .returned (.int .u64 (c : Int)) ∧ RowAt w' g [.string T3, .bool o3] 61 ∧ W.grownBy w' (some g))
    (ha : (a : Int) ≤ 1048576) (hc : (c : Int) ≤ 1099511627776)
    (hk : kb.toNat = k) (k3 : ((k : Int) == 3) = false) (k4 : ((k : Int) == 4) = false) (k5 : ((k : Int) == 5) = false) (k6 : ((k : Int) == 6) = false)
    (cPut : ∀ W : World, Calls Tryz.prog 23 #[.agg #[.int .u8 (k : Int), .int .i64 (a : Int), .int .u64 (b : Int), .int .i64 (c : Int), .bool false, .int .u64 0, .int .u64 0, .int .i64 0, .int .u8 0, .int .i64 0, .int .i64 0, .int .i64 0]] W fun e w' => e = .returned (.tuple #[.string TT, .int .i64 wy]) ∧ Below W.heap.size W w')
    (R : Value) (HY : (o3) = true ∧ wy = 0 ∧ TT = S → Hid (R = .tuple #[.agg #[.int .u8 (k : Int), .int .i64 (a : Int), .int .u64 (b : Int), .int .i64 (c : Int), .bool false, .int .u64 0, .int .u64 0, .int .i64 0, .int .u8 0, .int .i64 0, .int .i64 0, .int .i64 0], .int .i64 0])) (HN : ¬ ((o3) = true ∧ wy = 0 ∧ TT = S) → Hid (R = .tuple #[.agg #[.int .u8 0, .int .i64 0, .int .u64 0, .int .i64 0, .bool false, .int .u64 0, .int .u64 0, .int .i64 0, .int .u8 0, .int .i64 0, .int .i64 0, .int .i64 0], .int .i64 7])) :
    Calls Tryz.prog 15 #[.string S] w fun e w' => e = .returned R ∧ Below w.heap.size w w' := by
  have wa : IntKind.i64.wrap (a : Int) = (a : Int) := by rw [IntKind.wrap_i64]; omega
  have wc : IntKind.i64.wrap (c : Int) = (c : Int) := by rw [IntKind.wrap_i64]; omega
  obtain ⟨X, hX⟩ : ∃ X, X = w.alloc (.cells #[.int .u8 0, .int .i64 0, .int .u64 0, .int .i64 0, .bool false, .int .u64 0, .int .u64 0, .int .i64 0, .int .u8 0, .int .i64 0, .int .i64 0, .int .i64 0] 35) := ⟨_, rfl⟩
  have hB : Below w.heap.size w X := by rw [hX]; exact below_new (Below.refl _ _) _
  have rx : RowAt X w.heap.size [.int .u8 0, .int .i64 0, .int .u64 0, .int .i64 0, .bool false, .int .u64 0, .int .u64 0, .int .i64 0, .int .u8 0, .int .i64 0, .int .i64 0, .int .i64 0] 35 := by rw [hX]; exact RowAt.new _ _ _
  go_enter Tryz.func15, Tryz.ntmps15
  go_upto_region 1 with fail
  rw [← hX]
  clear hX
  have hlX := RowAt.lt rx
  obtain ⟨g2, hg2⟩ : ∃ g, g = w.heap.size := ⟨_, rfl⟩
  have hgw : w.heap.size ≤ g2 := by omega
  rw [← hg2] at rx hlX ⊢
  clear hg2
  go_upto_region 3 with fail
  go_upto_region 4 with fail
  obtain ⟨Y, hY⟩ : ∃ Y, Y = X.alloc (.cells #[.string T, .bool true] 61) := ⟨_, rfl⟩
  have hbY : Below X.heap.size X Y := by rw [hY]; exact below_new (Below.refl _ _) _
  have r4 : RowAt Y X.heap.size [.string T, .bool true] 61 := by rw [hY]; exact RowAt.new _ _ _
  rw [← hY]
  replace rx := RowAt.below rx hbY
  replace hB := below2 hB hbY
  obtain ⟨g4, hg4⟩ : ∃ g, g = X.heap.size := ⟨_, rfl⟩
  rw [← hg4] at r4 hlX ⊢
  clear hg4 hY hbY
  go_upto_region 5 with fail
  obtain ⟨Z, hZ⟩ : ∃ Z, Z = Y.alloc (.cells #[.int .u8 (k : Int), .int .i64 0, .int .u64 0, .int .i64 0, .bool false, .int .u64 0, .int .u64 0, .int .i64 0, .int .u8 0, .int .i64 0, .int .i64 0, .int .i64 0] 35) := ⟨_, rfl⟩
  have hbZ : Below Y.heap.size Y Z := by rw [hZ]; exact below_new (Below.refl _ _) _
  have r5 : RowAt Z Y.heap.size [.int .u8 (k : Int), .int .i64 0, .int .u64 0, .int .i64 0, .bool false, .int .u64 0, .int .u64 0, .int .i64 0, .int .u8 0, .int .i64 0, .int .i64 0, .int .i64 0] 35 := by rw [hZ]; exact RowAt.new _ _ _
  rw [← hZ]
  replace rx := RowAt.below rx hbZ
  have hl4 := RowAt.lt r4
  replace r4 := RowAt.below r4 hbZ
  replace hB := below2 hB hbZ
  obtain ⟨g5, hg5⟩ : ∃ g, g = Y.heap.size := ⟨_, rfl⟩
  rw [← hg5] at r5 hl4 ⊢
  clear hg5 hZ hbZ
  have hG : RG w Z g2 g4 g5 T true [.int .u8 (k : Int), .int .i64 0, .int .u64 0, .int .i64 0, .bool false, .int .u64 0, .int .u64 0, .int .i64 0, .int .u8 0, .int .i64 0, .int .i64 0, .int .i64 0] := ⟨rx, r4, r5, hB, hgw, hlX, hl4⟩
  clear rx r4 r5 hB h0 hx hs hne
  have hg24 := hlX
  have hg45 := hl4
  clear hlX hl4
  obtain ⟨⟨y0, y1, y2, y3, y4, y5⟩, ⟨y6, y7, y8, y9, y10, y11⟩, yf, hly⟩ := cells12' hG.r5
  obtain ⟨x0, x1, xf⟩ := cells2 hG.r4
  have hlx := RowAt.lt hG.r4
  go_wp2_with fail
  go_at_call 20; refine (n1 _ _ hG.r4).mono ?_; rintro e w1 ⟨rfl, hr, hg⟩
  replace hG := hG.num hr hg
  clear y0 y1 y2 y3 y4 y5 y6 y7 y8 y9 y10 y11 yf hly x0 x1 xf hlx hr hg
  obtain ⟨⟨y0, y1, y2, y3, y4, y5⟩, ⟨y6, y7, y8, y9, y10, y11⟩, yf, hly⟩ := cells12' hG.r5
  obtain ⟨x0, x1, xf⟩ := cells2 hG.r4
  have hlx := RowAt.lt hG.r4
  go_upto_region 6 with fail
  replace hG := hG.set 1 (.int .i64 (a : Int))
  generalize w1.setCell ⟨g5, 1, none⟩ (.int .i64 (a : Int)) = w1' at *
  simp only [List.set_cons_succ, List.set_cons_zero] at hG
  clear y0 y1 y2 y3 y4 y5 y6 y7 y8 y9 y10 y11 yf hly x0 x1 xf hlx
  obtain ⟨⟨y0, y1, y2, y3, y4, y5⟩, ⟨y6, y7, y8, y9, y10, y11⟩, yf, hly⟩ := cells12' hG.r5
  obtain ⟨x0, x1, xf⟩ := cells2 hG.r4
  have hlx := RowAt.lt hG.r4
  go_wp2_with fail
  go_at_call 20; refine (n2 _ _ hG.r4).mono ?_; rintro e w2 ⟨rfl, hr, hg⟩
  replace hG := hG.num hr hg
  clear y0 y1 y2 y3 y4 y5 y6 y7 y8 y9 y10 y11 yf hly x0 x1 xf hlx hr hg
  obtain ⟨⟨y0, y1, y2, y3, y4, y5⟩, ⟨y6, y7, y8, y9, y10, y11⟩, yf, hly⟩ := cells12' hG.r5
  obtain ⟨x0, x1, xf⟩ := cells2 hG.r4
  have hlx := RowAt.lt hG.r4
  go_upto_region 7 with fail
  replace hG := hG.set 2 (.int .u64 (b : Int))
  generalize w2.setCell ⟨g5, 2, none⟩ (.int .u64 (b : Int)) = w2' at *
  simp only [List.set_cons_succ, List.set_cons_zero] at hG
  clear y0 y1 y2 y3 y4 y5 y6 y7 y8 y9 y10 y11 yf hly x0 x1 xf hlx
  obtain ⟨⟨y0, y1, y2, y3, y4, y5⟩, ⟨y6, y7, y8, y9, y10, y11⟩, yf, hly⟩ := cells12' hG.r5
  obtain ⟨x0, x1, xf⟩ := cells2 hG.r4
  have hlx := RowAt.lt hG.r4
  go_wp2_with fail
  go_at_call 20; refine (n3 _ _ hG.r4).mono ?_; rintro e w3 ⟨rfl, hr, hg⟩
  replace hG := hG.num hr hg
  clear y0 y1 y2 y3 y4 y5 y6 y7 y8 y9 y10 y11 yf hly x0 x1 xf hlx hr hg
  obtain ⟨⟨y0, y1, y2, y3, y4, y5⟩, ⟨y6, y7, y8, y9, y10, y11⟩, yf, hly⟩ := cells12' hG.r5
  obtain ⟨x0, x1, xf⟩ := cells2 hG.r4
  have hlx := RowAt.lt hG.r4
  go_upto_region 8 with fail
  replace hG := hG.set 3 (.int .i64 (c : Int))
  generalize w3.setCell ⟨g5, 3, none⟩ (.int .i64 (c : Int)) = w3' at *
  simp only [List.set_cons_succ, List.set_cons_zero] at hG
  clear y0 y1 y2 y3 y4 y5 y6 y7 y8 y9 y10 y11 yf hly x0 x1 xf hlx
  obtain ⟨⟨y0, y1, y2, y3, y4, y5⟩, ⟨y6, y7, y8, y9, y10, y11⟩, yf, hly⟩ := cells12' hG.r5
  obtain ⟨x0, x1, xf⟩ := cells2 hG.r4
  have hlx := RowAt.lt hG.r4
  skip
  go_wp2_with fail
  go_at_call 23; refine (cPut _).mono ?_; rintro e w9 ⟨rfl, hb9⟩
  replace hG := hG.below hb9
  clear y0 y1 y2 y3 y4 y5 y6 y7 y8 y9 y10 y11 yf hly x0 x1 xf hlx hb9
  obtain ⟨⟨y0, y1, y2, y3, y4, y5⟩, ⟨y6, y7, y8, y9, y10, y11⟩, yf, hly⟩ := cells12' hG.r5
  obtain ⟨x0, x1, xf⟩ := cells2 hG.r4
  have hlx := RowAt.lt hG.r4
  obtain ⟨⟨z0, z1, z2, z3, z4, z5⟩, ⟨z6, z7, z8, z9, z10, z11⟩, zf, hlz⟩ := cells12' hG.r2
  have hgw2 := hG.h2
  cases hoo : o3
  · have HV := HN (by rw [hoo]; simp)
    simp only [hoo] at *
    go_wp2_with fail
    refine bodyPost_ret (v := .tuple #[.agg #[.int .u8 0, .int .i64 0, .int .u64 0, .int .i64 0, .bool false, .int .u64 0, .int .u64 0, .int .i64 0, .int .u8 0, .int .i64 0, .int .i64 0, .int .i64 0], .int .i64 7]) ?_ rfl ⟨by rw [HV.out], ?_⟩
    any_goals (rw [results_cell_tmp rfl]; go_simp)
    all_goals (repeat' (first | with_reducible exact hG.hB | with_reducible apply below_drew | with_reducible refine bset ?_ (by omega)))
  by_cases hwy : wy = 0
  · subst hwy
    by_cases hts : TT = S
    · have HV := HY ⟨hoo, rfl, hts⟩
      subst hts
      simp only [hoo] at *
      go_wp2_with fail
      refine bodyPost_ret (v := .tuple #[.agg #[.int .u8 (k : Int), .int .i64 (a : Int), .int .u64 (b : Int), .int .i64 (c : Int), .bool false, .int .u64 0, .int .u64 0, .int .i64 0, .int .u8 0, .int .i64 0, .int .i64 0, .int .i64 0], .int .i64 0]) ?_ rfl ⟨by rw [HV.out], ?_⟩
      any_goals (rw [results_cell_tmp rfl]; go_simp)
      all_goals (repeat' (first | with_reducible exact hG.hB | with_reducible apply below_drew | with_reducible refine bset ?_ (by omega)))
    · have HV := HN (fun c => hts c.2.2)
      have hq : (TT.toList == S.toList) = false := beq_eq_false_iff_ne.2 (fun c => hts (toList_inj c))
      simp only [hoo] at *
      go_wp2_with fail
      refine bodyPost_ret (v := .tuple #[.agg #[.int .u8 0, .int .i64 0, .int .u64 0, .int .i64 0, .bool false, .int .u64 0, .int .u64 0, .int .i64 0, .int .u8 0, .int .i64 0, .int .i64 0, .int .i64 0], .int .i64 7]) ?_ rfl ⟨by rw [HV.out], ?_⟩
      any_goals (rw [results_cell_tmp rfl]; go_simp)
      all_goals (repeat' (first | with_reducible exact hG.hB | with_reducible apply below_drew | with_reducible refine bset ?_ (by omega)))
  · have HV := HN (fun c => hwy c.2.1)
    have hq1 : (wy == 0) = false := beq_eq_false_iff_ne.2 hwy
    have hq2 : (wy != 0) = true := bne_iff_ne.2 hwy
    simp only [hoo] at *
    go_wp2_with fail
    refine bodyPost_ret (v := .tuple #[.agg #[.int .u8 0, .int .i64 0, .int .u64 0, .int .i64 0, .bool false, .int .u64 0, .int .u64 0, .int .i64 0, .int .u8 0, .int .i64 0, .int .i64 0, .int .i64 0], .int .i64 7]) ?_ rfl ⟨by rw [HV.out], ?_⟩
    any_goals (rw [results_cell_tmp rfl]; go_simp)
    all_goals (repeat' (first | with_reducible exact hG.hB | with_reducible apply below_drew | with_reducible refine bset ?_ (by omega)))
end Go.Proofs.YtopabkkapbaibaaGreat.Msg
namespace Go.Proofs.YtopabkkapbaibaaGreat.Msg
open Go.RowKit
open Go.Proofs.YtopabkkapbaibaaGreat.Addr (Pf okP checkP wideN firstN kP hiN loN adV pfV RowAt below2 below_drew below_new bset RowAt.lt RowAt.cell RowAt.frozen RowAt.below RowAt.drew RowAt.new RowAt.alloc gdrew gset gbelow galloc grefl gfinal cells2 cells4 results_cell Bl bl_ne wp_region_bl bl_call bl_same)

set_option maxRecDepth 20000 in
set_option maxHeartbeats 8000000 in
theorem rget_5 (S T : ByteArray) (w : World) (kb : UInt8) (hs : 1 ≤ (S.size : Int)) (h0 : ∀ h : 0 < S.size, S[0]'h = kb) (hx : S.extract 1 S.size = T) (hne : S.toList.isEmpty = false) (a b c : Nat) (TT : ByteArray) (wy : Int) (T1 T2 T3 : ByteArray) (o1 o2 o3 : Bool) (T4 T5 : ByteArray) (o4 o5 : Bool) (i p : Nat)
    (n1 : ∀ (g : Nat) (W : World), RowAt W g [.string T, .bool true] 61 → Calls Tryz.prog 20 #[.pointer (some ⟨g, 0, none⟩), .int .u64 1048576] W fun e w' => e = .returned (.int .u64 (a : Int)) ∧ RowAt w' g [.string T1, .bool o1] 61 ∧ W.grownBy w' (some g))
    (n2 : ∀ (g : Nat) (W : World), RowAt W g [.string T1, .bool o1] 61 → Calls Tryz.prog 20 #[.pointer (some ⟨g, 0, none⟩), .int .u64 1099511627776] W fun e w' => e = .returned (.int .u64 (b : Int)) ∧ RowAt w' g [.string T2, .bool o2] 61 ∧ W.grownBy w' (some g))
    (n3 : ∀ (g : Nat) (W : World), RowAt W g [.string T2, .bool o2] 61 → Calls Tryz.prog 20 #[.pointer (some ⟨g, 0, none⟩), .int .u64 1099511627776] W fun e w' => e = .returned (.int .u64 (c : Int)) ∧ RowAt w' g [.string T3, .bool o3] 61 ∧ W.grownBy w' (some g))
    (ha : (a : Int) ≤ 1048576) (hc : (c : Int) ≤ 1099511627776)
    (hk : kb = 5) (n4 : ∀ (g : Nat) (W : World), RowAt W g [.string T3, .bool o3] 61 → Calls Tryz.prog 20 #[.pointer (some ⟨g, 0, none⟩), .int .u64 65536] W fun e w' => e = .returned (.int .u64 (i : Int)) ∧ RowAt w' g [.string T4, .bool o4] 61 ∧ W.grownBy w' (some g)) (hi0 : (i : Int) ≤ 65536) (n5 : ∀ (g : Nat) (W : World), RowAt W g [.string T4, .bool o4] 61 → Calls Tryz.prog 20 #[.pointer (some ⟨g, 0, none⟩), .int .u64 1048576] W fun e w' => e = .returned (.int .u64 (p : Int)) ∧ RowAt w' g [.string T5, .bool o5] 61 ∧ W.grownBy w' (some g)) (hp0 : (p : Int) ≤ 1048576)
    (cPut : ∀ W : World, Calls Tryz.prog 23 #[.agg #[.int .u8 5, .int .i64 (a : Int), .int .u64 (b : Int), .int .i64 (c : Int), .bool false, .int .u64 0, .int .u64 0, .int .i64 0, .int .u8 0, .int .i64 0, .int .i64 (i : Int), .int .i64 (p : Int)]] W fun e w' => e = .returned (.tuple #[.string TT, .int .i64 wy]) ∧ Below W.heap.size W w')
    (R : Value) (HY : (o5) = true ∧ wy = 0 ∧ TT = S → Hid (R = .tuple #[.agg #[.int .u8 5, .int .i64 (a : Int), .int .u64 (b : Int), .int .i64 (c : Int), .bool false, .int .u64 0, .int .u64 0, .int .i64 0, .int .u8 0, .int .i64 0, .int .i64 (i : Int), .int .i64 (p : Int)], .int .i64 0])) (HN : ¬ ((o5) = true ∧ wy = 0 ∧ TT = S) → Hid (R = .tuple #[.agg #[.int .u8 0, .int .i64 0, .int .u64 0, .int .i64 0, .bool false, .int .u64 0, .int .u64 0, .int .i64 0, .int .u8 0, .int .i64 0, .int .i64 0, .int .i64 0], .int .i64 7])) :
    Calls Tryz.prog 15 #[.string S] w fun e w' => e = .returned R ∧ Below w.heap.size w w' := by
  subst hk
  have wa : IntKind.i64.wrap (a : Int) = (a : Int) := by rw [IntKind.wrap_i64]; omega
  have wc : IntKind.i64.wrap (c : Int) = (c : Int) := by rw [IntKind.wrap_i64]; omega
  obtain ⟨X, hX⟩ : ∃ X, X = w.alloc (.cells #[.int .u8 0, .int .i64 0, .int .u64 0, .int .i64 0, .bool false, .int .u64 0, .int .u64 0, .int .i64 0, .int .u8 0, .int .i64 0, .int .i64 0, .int .i64 0] 35) := ⟨_, rfl⟩
  have hB : Below w.heap.size w X := by rw [hX]; exact below_new (Below.refl _ _) _
  have rx : RowAt X w.heap.size [.int .u8 0, .int .i64 0, .int .u64 0, .int .i64 0, .bool false, .int .u64 0, .int .u64 0, .int .i64 0, .int .u8 0, .int .i64 0, .int .i64 0, .int .i64 0] 35 := by rw [hX]; exact RowAt.new _ _ _
  go_enter Tryz.func15, Tryz.ntmps15
  go_upto_region 1 with fail
  rw [← hX]
  clear hX
  have hlX := RowAt.lt rx
  obtain ⟨g2, hg2⟩ : ∃ g, g = w.heap.size := ⟨_, rfl⟩
  have hgw : w.heap.size ≤ g2 := by omega
  rw [← hg2] at rx hlX ⊢
  clear hg2
  go_upto_region 3 with fail
  go_upto_region 4 with fail
  obtain ⟨Y, hY⟩ : ∃ Y, Y = X.alloc (.cells #[.string T, .bool true] 61) := ⟨_, rfl⟩
  have hbY : Below X.heap.size X Y := by rw [hY]; exact below_new (Below.refl _ _) _
  have r4 : RowAt Y X.heap.size [.string T, .bool true] 61 := by rw [hY]; exact RowAt.new _ _ _
  rw [← hY]
  replace rx := RowAt.below rx hbY
  replace hB := below2 hB hbY
  obtain ⟨g4, hg4⟩ : ∃ g, g = X.heap.size := ⟨_, rfl⟩
  rw [← hg4] at r4 hlX ⊢
  clear hg4 hY hbY
  go_upto_region 5 with fail
  obtain ⟨Z, hZ⟩ : ∃ Z, Z = Y.alloc (.cells #[.int .u8 5, .int .i64 0, .int .u64 0, .int .i64 0, .bool false, .int .u64 0, .int .u64 0, .int .i64 0, .int .u8 0, .int .i64 0, .int .i64 0, .int .i64 0] 35) := ⟨_, rfl⟩
  have hbZ : Below Y.heap.size Y Z := by rw [hZ]; exact below_new (Below.refl _ _) _
  have r5 : RowAt Z Y.heap.size [.int .u8 5, .int .i64 0, .int .u64 0, .int .i64 0, .bool false, .int .u64 0, .int .u64 0, .int .i64 0, .int .u8 0, .int .i64 0, .int .i64 0, .int .i64 0] 35 := by rw [hZ]; exact RowAt.new _ _ _
  rw [← hZ]
  replace rx := RowAt.below rx hbZ
  have hl4 := RowAt.lt r4
  replace r4 := RowAt.below r4 hbZ
  replace hB := below2 hB hbZ
  obtain ⟨g5, hg5⟩ : ∃ g, g = Y.heap.size := ⟨_, rfl⟩
  rw [← hg5] at r5 hl4 ⊢
  clear hg5 hZ hbZ
  have hG : RG w Z g2 g4 g5 T true [.int .u8 5, .int .i64 0, .int .u64 0, .int .i64 0, .bool false, .int .u64 0, .int .u64 0, .int .i64 0, .int .u8 0, .int .i64 0, .int .i64 0, .int .i64 0] := ⟨rx, r4, r5, hB, hgw, hlX, hl4⟩
  clear rx r4 r5 hB h0 hx hs hne
  have hg24 := hlX
  have hg45 := hl4
  clear hlX hl4
  obtain ⟨⟨y0, y1, y2, y3, y4, y5⟩, ⟨y6, y7, y8, y9, y10, y11⟩, yf, hly⟩ := cells12' hG.r5
  obtain ⟨x0, x1, xf⟩ := cells2 hG.r4
  have hlx := RowAt.lt hG.r4
  go_wp2_with fail
  go_at_call 20; refine (n1 _ _ hG.r4).mono ?_; rintro e w1 ⟨rfl, hr, hg⟩
  replace hG := hG.num hr hg
  clear y0 y1 y2 y3 y4 y5 y6 y7 y8 y9 y10 y11 yf hly x0 x1 xf hlx hr hg
  obtain ⟨⟨y0, y1, y2, y3, y4, y5⟩, ⟨y6, y7, y8, y9, y10, y11⟩, yf, hly⟩ := cells12' hG.r5
  obtain ⟨x0, x1, xf⟩ := cells2 hG.r4
  have hlx := RowAt.lt hG.r4
  go_upto_region 6 with fail
  replace hG := hG.set 1 (.int .i64 (a : Int))
  generalize w1.setCell ⟨g5, 1, none⟩ (.int .i64 (a : Int)) = w1' at *
  simp only [List.set_cons_succ, List.set_cons_zero] at hG
  clear y0 y1 y2 y3 y4 y5 y6 y7 y8 y9 y10 y11 yf hly x0 x1 xf hlx
  obtain ⟨⟨y0, y1, y2, y3, y4, y5⟩, ⟨y6, y7, y8, y9, y10, y11⟩, yf, hly⟩ := cells12' hG.r5
  obtain ⟨x0, x1, xf⟩ := cells2 hG.r4
  have hlx := RowAt.lt hG.r4
  go_wp2_with fail
  go_at_call 20; refine (n2 _ _ hG.r4).mono ?_; rintro e w2 ⟨rfl, hr, hg⟩
  replace hG := hG.num hr hg
  clear y0 y1 y2 y3 y4 y5 y6 y7 y8 y9 y10 y11 yf hly x0 x1 xf hlx hr hg
  obtain ⟨⟨y0, y1, y2, y3, y4, y5⟩, ⟨y6, y7, y8, y9, y10, y11⟩, yf, hly⟩ := cells12' hG.r5
  obtain ⟨x0, x1, xf⟩ := cells2 hG.r4
  have hlx := RowAt.lt hG.r4
  go_upto_region 7 with fail
  replace hG := hG.set 2 (.int .u64 (b : Int))
  generalize w2.setCell ⟨g5, 2, none⟩ (.int .u64 (b : Int)) = w2' at *
  simp only [List.set_cons_succ, List.set_cons_zero] at hG
  clear y0 y1 y2 y3 y4 y5 y6 y7 y8 y9 y10 y11 yf hly x0 x1 xf hlx
  obtain ⟨⟨y0, y1, y2, y3, y4, y5⟩, ⟨y6, y7, y8, y9, y10, y11⟩, yf, hly⟩ := cells12' hG.r5
  obtain ⟨x0, x1, xf⟩ := cells2 hG.r4
  have hlx := RowAt.lt hG.r4
  go_wp2_with fail
  go_at_call 20; refine (n3 _ _ hG.r4).mono ?_; rintro e w3 ⟨rfl, hr, hg⟩
  replace hG := hG.num hr hg
  clear y0 y1 y2 y3 y4 y5 y6 y7 y8 y9 y10 y11 yf hly x0 x1 xf hlx hr hg
  obtain ⟨⟨y0, y1, y2, y3, y4, y5⟩, ⟨y6, y7, y8, y9, y10, y11⟩, yf, hly⟩ := cells12' hG.r5
  obtain ⟨x0, x1, xf⟩ := cells2 hG.r4
  have hlx := RowAt.lt hG.r4
  go_upto_region 8 with fail
  replace hG := hG.set 3 (.int .i64 (c : Int))
  generalize w3.setCell ⟨g5, 3, none⟩ (.int .i64 (c : Int)) = w3' at *
  simp only [List.set_cons_succ, List.set_cons_zero] at hG
  clear y0 y1 y2 y3 y4 y5 y6 y7 y8 y9 y10 y11 yf hly x0 x1 xf hlx
  obtain ⟨⟨y0, y1, y2, y3, y4, y5⟩, ⟨y6, y7, y8, y9, y10, y11⟩, yf, hly⟩ := cells12' hG.r5
  obtain ⟨x0, x1, xf⟩ := cells2 hG.r4
  have hlx := RowAt.lt hG.r4
  have wi : IntKind.i64.wrap (i : Int) = (i : Int) := by rw [IntKind.wrap_i64]; omega
  have wp : IntKind.i64.wrap (p : Int) = (p : Int) := by rw [IntKind.wrap_i64]; omega
  go_wp2_with fail
  go_at_call 20; refine (n4 _ _ hG.r4).mono ?_; rintro e w4 ⟨rfl, hr, hg⟩
  replace hG := hG.num hr hg
  clear y0 y1 y2 y3 y4 y5 y6 y7 y8 y9 y10 y11 yf hly x0 x1 xf hlx hr hg
  obtain ⟨⟨y0, y1, y2, y3, y4, y5⟩, ⟨y6, y7, y8, y9, y10, y11⟩, yf, hly⟩ := cells12' hG.r5
  obtain ⟨x0, x1, xf⟩ := cells2 hG.r4
  have hlx := RowAt.lt hG.r4
  go_upto_region 16 with fail
  replace hG := hG.set 10 (.int .i64 (i : Int))
  generalize w4.setCell ⟨g5, 10, none⟩ (.int .i64 (i : Int)) = w4' at *
  simp only [List.set_cons_succ, List.set_cons_zero] at hG
  clear y0 y1 y2 y3 y4 y5 y6 y7 y8 y9 y10 y11 yf hly x0 x1 xf hlx
  obtain ⟨⟨y0, y1, y2, y3, y4, y5⟩, ⟨y6, y7, y8, y9, y10, y11⟩, yf, hly⟩ := cells12' hG.r5
  obtain ⟨x0, x1, xf⟩ := cells2 hG.r4
  have hlx := RowAt.lt hG.r4
  go_wp2_with fail
  go_at_call 20; refine (n5 _ _ hG.r4).mono ?_; rintro e w5 ⟨rfl, hr, hg⟩
  replace hG := hG.num hr hg
  clear y0 y1 y2 y3 y4 y5 y6 y7 y8 y9 y10 y11 yf hly x0 x1 xf hlx hr hg
  obtain ⟨⟨y0, y1, y2, y3, y4, y5⟩, ⟨y6, y7, y8, y9, y10, y11⟩, yf, hly⟩ := cells12' hG.r5
  obtain ⟨x0, x1, xf⟩ := cells2 hG.r4
  have hlx := RowAt.lt hG.r4
  go_upto_region 18 with fail
  replace hG := hG.set 11 (.int .i64 (p : Int))
  generalize w5.setCell ⟨g5, 11, none⟩ (.int .i64 (p : Int)) = w5' at *
  simp only [List.set_cons_succ, List.set_cons_zero] at hG
  clear y0 y1 y2 y3 y4 y5 y6 y7 y8 y9 y10 y11 yf hly x0 x1 xf hlx
  obtain ⟨⟨y0, y1, y2, y3, y4, y5⟩, ⟨y6, y7, y8, y9, y10, y11⟩, yf, hly⟩ := cells12' hG.r5
  obtain ⟨x0, x1, xf⟩ := cells2 hG.r4
  have hlx := RowAt.lt hG.r4
  go_wp2_with fail
  go_at_call 23; refine (cPut _).mono ?_; rintro e w9 ⟨rfl, hb9⟩
  replace hG := hG.below hb9
  clear y0 y1 y2 y3 y4 y5 y6 y7 y8 y9 y10 y11 yf hly x0 x1 xf hlx hb9
  obtain ⟨⟨y0, y1, y2, y3, y4, y5⟩, ⟨y6, y7, y8, y9, y10, y11⟩, yf, hly⟩ := cells12' hG.r5
  obtain ⟨x0, x1, xf⟩ := cells2 hG.r4
  have hlx := RowAt.lt hG.r4
  obtain ⟨⟨z0, z1, z2, z3, z4, z5⟩, ⟨z6, z7, z8, z9, z10, z11⟩, zf, hlz⟩ := cells12' hG.r2
  have hgw2 := hG.h2
  cases hoo : o5
  · have HV := HN (by rw [hoo]; simp)
    simp only [hoo] at *
    go_wp2_with fail
    refine bodyPost_ret (v := .tuple #[.agg #[.int .u8 0, .int .i64 0, .int .u64 0, .int .i64 0, .bool false, .int .u64 0, .int .u64 0, .int .i64 0, .int .u8 0, .int .i64 0, .int .i64 0, .int .i64 0], .int .i64 7]) ?_ rfl ⟨by rw [HV.out], ?_⟩
    any_goals (rw [results_cell_tmp rfl]; go_simp)
    all_goals (repeat' (first | with_reducible exact hG.hB | with_reducible apply below_drew | with_reducible refine bset ?_ (by omega)))
  by_cases hwy : wy = 0
  · subst hwy
    by_cases hts : TT = S
    · have HV := HY ⟨hoo, rfl, hts⟩
      subst hts
      simp only [hoo] at *
      go_wp2_with fail
      refine bodyPost_ret (v := .tuple #[.agg #[.int .u8 5, .int .i64 (a : Int), .int .u64 (b : Int), .int .i64 (c : Int), .bool false, .int .u64 0, .int .u64 0, .int .i64 0, .int .u8 0, .int .i64 0, .int .i64 (i : Int), .int .i64 (p : Int)], .int .i64 0]) ?_ rfl ⟨by rw [HV.out], ?_⟩
      any_goals (rw [results_cell_tmp rfl]; go_simp)
      all_goals (repeat' (first | with_reducible exact hG.hB | with_reducible apply below_drew | with_reducible refine bset ?_ (by omega)))
    · have HV := HN (fun c => hts c.2.2)
      have hq : (TT.toList == S.toList) = false := beq_eq_false_iff_ne.2 (fun c => hts (toList_inj c))
      simp only [hoo] at *
      go_wp2_with fail
      refine bodyPost_ret (v := .tuple #[.agg #[.int .u8 0, .int .i64 0, .int .u64 0, .int .i64 0, .bool false, .int .u64 0, .int .u64 0, .int .i64 0, .int .u8 0, .int .i64 0, .int .i64 0, .int .i64 0], .int .i64 7]) ?_ rfl ⟨by rw [HV.out], ?_⟩
      any_goals (rw [results_cell_tmp rfl]; go_simp)
      all_goals (repeat' (first | with_reducible exact hG.hB | with_reducible apply below_drew | with_reducible refine bset ?_ (by omega)))
  · have HV := HN (fun c => hwy c.2.1)
    have hq1 : (wy == 0) = false := beq_eq_false_iff_ne.2 hwy
    have hq2 : (wy != 0) = true := bne_iff_ne.2 hwy
    simp only [hoo] at *
    go_wp2_with fail
    refine bodyPost_ret (v := .tuple #[.agg #[.int .u8 0, .int .i64 0, .int .u64 0, .int .i64 0, .bool false, .int .u64 0, .int .u64 0, .int .i64 0, .int .u8 0, .int .i64 0, .int .i64 0, .int .i64 0], .int .i64 7]) ?_ rfl ⟨by rw [HV.out], ?_⟩
    any_goals (rw [results_cell_tmp rfl]; go_simp)
    all_goals (repeat' (first | with_reducible exact hG.hB | with_reducible apply below_drew | with_reducible refine bset ?_ (by omega)))
set_option maxRecDepth 20000 in
set_option maxHeartbeats 8000000 in
theorem rget_6 (S T : ByteArray) (w : World) (kb : UInt8) (hs : 1 ≤ (S.size : Int)) (h0 : ∀ h : 0 < S.size, S[0]'h = kb) (hx : S.extract 1 S.size = T) (hne : S.toList.isEmpty = false) (a b c : Nat) (TT : ByteArray) (wy : Int) (T1 T2 T3 : ByteArray) (o1 o2 o3 : Bool) (T4 : ByteArray) (o4 : Bool) (i : Nat)
    (n1 : ∀ (g : Nat) (W : World), RowAt W g [.string T, .bool true] 61 → Calls Tryz.prog 20 #[.pointer (some ⟨g, 0, none⟩), .int .u64 1048576] W fun e w' => e = .returned (.int .u64 (a : Int)) ∧ RowAt w' g [.string T1, .bool o1] 61 ∧ W.grownBy w' (some g))
    (n2 : ∀ (g : Nat) (W : World), RowAt W g [.string T1, .bool o1] 61 → Calls Tryz.prog 20 #[.pointer (some ⟨g, 0, none⟩), .int .u64 1099511627776] W fun e w' => e = .returned (.int .u64 (b : Int)) ∧ RowAt w' g [.string T2, .bool o2] 61 ∧ W.grownBy w' (some g))
    (n3 : ∀ (g : Nat) (W : World), RowAt W g [.string T2, .bool o2] 61 → Calls Tryz.prog 20 #[.pointer (some ⟨g, 0, none⟩), .int .u64 1099511627776] W fun e w' => e = .returned (.int .u64 (c : Int)) ∧ RowAt w' g [.string T3, .bool o3] 61 ∧ W.grownBy w' (some g))
    (ha : (a : Int) ≤ 1048576) (hc : (c : Int) ≤ 1099511627776)
    (hk : kb = 6) (n4 : ∀ (g : Nat) (W : World), RowAt W g [.string T3, .bool o3] 61 → Calls Tryz.prog 20 #[.pointer (some ⟨g, 0, none⟩), .int .u64 65536] W fun e w' => e = .returned (.int .u64 (i : Int)) ∧ RowAt w' g [.string T4, .bool o4] 61 ∧ W.grownBy w' (some g)) (hi0 : (i : Int) ≤ 65536)
    (cPut : ∀ W : World, Calls Tryz.prog 23 #[.agg #[.int .u8 6, .int .i64 (a : Int), .int .u64 (b : Int), .int .i64 (c : Int), .bool false, .int .u64 0, .int .u64 0, .int .i64 0, .int .u8 0, .int .i64 0, .int .i64 (i : Int), .int .i64 0]] W fun e w' => e = .returned (.tuple #[.string TT, .int .i64 wy]) ∧ Below W.heap.size W w')
    (R : Value) (HY : (o4) = true ∧ wy = 0 ∧ TT = S → Hid (R = .tuple #[.agg #[.int .u8 6, .int .i64 (a : Int), .int .u64 (b : Int), .int .i64 (c : Int), .bool false, .int .u64 0, .int .u64 0, .int .i64 0, .int .u8 0, .int .i64 0, .int .i64 (i : Int), .int .i64 0], .int .i64 0])) (HN : ¬ ((o4) = true ∧ wy = 0 ∧ TT = S) → Hid (R = .tuple #[.agg #[.int .u8 0, .int .i64 0, .int .u64 0, .int .i64 0, .bool false, .int .u64 0, .int .u64 0, .int .i64 0, .int .u8 0, .int .i64 0, .int .i64 0, .int .i64 0], .int .i64 7])) :
    Calls Tryz.prog 15 #[.string S] w fun e w' => e = .returned R ∧ Below w.heap.size w w' := by
  subst hk
  have wa : IntKind.i64.wrap (a : Int) = (a : Int) := by rw [IntKind.wrap_i64]; omega
  have wc : IntKind.i64.wrap (c : Int) = (c : Int) := by rw [IntKind.wrap_i64]; omega
  obtain ⟨X, hX⟩ : ∃ X, X = w.alloc (.cells #[.int .u8 0, .int .i64 0, .int .u64 0, .int .i64 0, .bool false, .int .u64 0, .int .u64 0, .int .i64 0, .int .u8 0, .int .i64 0, .int .i64 0, .int .i64 0] 35) := ⟨_, rfl⟩
  have hB : Below w.heap.size w X := by rw [hX]; exact below_new (Below.refl _ _) _
  have rx : RowAt X w.heap.size [.int .u8 0, .int .i64 0, .int .u64 0, .int .i64 0, .bool false, .int .u64 0, .int .u64 0, .int .i64 0, .int .u8 0, .int .i64 0, .int .i64 0, .int .i64 0] 35 := by rw [hX]; exact RowAt.new _ _ _
  go_enter Tryz.func15, Tryz.ntmps15
  go_upto_region 1 with fail
  rw [← hX]
  clear hX
  have hlX := RowAt.lt rx
  obtain ⟨g2, hg2⟩ : ∃ g, g = w.heap.size := ⟨_, rfl⟩
  have hgw : w.heap.size ≤ g2 := by omega
  rw [← hg2] at rx hlX ⊢
  clear hg2
  go_upto_region 3 with fail
  go_upto_region 4 with fail
  obtain ⟨Y, hY⟩ : ∃ Y, Y = X.alloc (.cells #[.string T, .bool true] 61) := ⟨_, rfl⟩
  have hbY : Below X.heap.size X Y := by rw [hY]; exact below_new (Below.refl _ _) _
  have r4 : RowAt Y X.heap.size [.string T, .bool true] 61 := by rw [hY]; exact RowAt.new _ _ _
  rw [← hY]
  replace rx := RowAt.below rx hbY
  replace hB := below2 hB hbY
  obtain ⟨g4, hg4⟩ : ∃ g, g = X.heap.size := ⟨_, rfl⟩
  rw [← hg4] at r4 hlX ⊢
  clear hg4 hY hbY
  go_upto_region 5 with fail
  obtain ⟨Z, hZ⟩ : ∃ Z, Z = Y.alloc (.cells #[.int .u8 6, .int .i64 0, .int .u64 0, .int .i64 0, .bool false, .int .u64 0, .int .u64 0, .int .i64 0, .int .u8 0, .int .i64 0, .int .i64 0, .int .i64 0] 35) := ⟨_, rfl⟩
  have hbZ : Below Y.heap.size Y Z := by rw [hZ]; exact below_new (Below.refl _ _) _
  have r5 : RowAt Z Y.heap.size [.int .u8 6, .int .i64 0, .int .u64 0, .int .i64 0, .bool false, .int .u64 0, .int .u64 0, .int .i64 0, .int .u8 0, .int .i64 0, .int .i64 0, .int .i64 0] 35 := by rw [hZ]; exact RowAt.new _ _ _
  rw [← hZ]
  replace rx := RowAt.below rx hbZ
  have hl4 := RowAt.lt r4
  replace r4 := RowAt.below r4 hbZ
  replace hB := below2 hB hbZ
  obtain ⟨g5, hg5⟩ : ∃ g, g = Y.heap.size := ⟨_, rfl⟩
  rw [← hg5] at r5 hl4 ⊢
  clear hg5 hZ hbZ
  have hG : RG w Z g2 g4 g5 T true [.int .u8 6, .int .i64 0, .int .u64 0, .int .i64 0, .bool false, .int .u64 0, .int .u64 0, .int .i64 0, .int .u8 0, .int .i64 0, .int .i64 0, .int .i64 0] := ⟨rx, r4, r5, hB, hgw, hlX, hl4⟩
  clear rx r4 r5 hB h0 hx hs hne
  have hg24 := hlX
  have hg45 := hl4
  clear hlX hl4
  obtain ⟨⟨y0, y1, y2, y3, y4, y5⟩, ⟨y6, y7, y8, y9, y10, y11⟩, yf, hly⟩ := cells12' hG.r5
  obtain ⟨x0, x1, xf⟩ := cells2 hG.r4
  have hlx := RowAt.lt hG.r4
  go_wp2_with fail
  go_at_call 20; refine (n1 _ _ hG.r4).mono ?_; rintro e w1 ⟨rfl, hr, hg⟩
  replace hG := hG.num hr hg
  clear y0 y1 y2 y3 y4 y5 y6 y7 y8 y9 y10 y11 yf hly x0 x1 xf hlx hr hg
  obtain ⟨⟨y0, y1, y2, y3, y4, y5⟩, ⟨y6, y7, y8, y9, y10, y11⟩, yf, hly⟩ := cells12' hG.r5
  obtain ⟨x0, x1, xf⟩ := cells2 hG.r4
  have hlx := RowAt.lt hG.r4
  go_upto_region 6 with fail
  replace hG := hG.set 1 (.int .i64 (a : Int))
  generalize w1.setCell ⟨g5, 1, none⟩ (.int .i64 (a : Int)) = w1' at *
  simp only [List.set_cons_succ, List.set_cons_zero] at hG
  clear y0 y1 y2 y3 y4 y5 y6 y7 y8 y9 y10 y11 yf hly x0 x1 xf hlx
  obtain ⟨⟨y0, y1, y2, y3, y4, y5⟩, ⟨y6, y7, y8, y9, y10, y11⟩, yf, hly⟩ := cells12' hG.r5
  obtain ⟨x0, x1, xf⟩ := cells2 hG.r4
  have hlx := RowAt.lt hG.r4
  go_wp2_with fail
  go_at_call 20; refine (n2 _ _ hG.r4).mono ?_; rintro e w2 ⟨rfl, hr, hg⟩
  replace hG := hG.num hr hg
  clear y0 y1 y2 y3 y4 y5 y6 y7 y8 y9 y10 y11 yf hly x0 x1 xf hlx hr hg
  obtain ⟨⟨y0, y1, y2, y3, y4, y5⟩, ⟨y6, y7, y8, y9, y10, y11⟩, yf, hly⟩ := cells12' hG.r5
  obtain ⟨x0, x1, xf⟩ := cells2 hG.r4
  have hlx := RowAt.lt hG.r4
  go_upto_region 7 with fail
  replace hG := hG.set 2 (.int .u64 (b : Int))
  generalize w2.setCell ⟨g5, 2, none⟩ (.int .u64 (b : Int)) = w2' at *
  simp only [List.set_cons_succ, List.set_cons_zero] at hG
  clear y0 y1 y2 y3 y4 y5 y6 y7 y8 y9 y10 y11 yf hly x0 x1 xf hlx
  obtain ⟨⟨y0, y1, y2, y3, y4, y5⟩, ⟨y6, y7, y8, y9, y10, y11⟩, yf, hly⟩ := cells12' hG.r5
  obtain ⟨x0, x1, xf⟩ := cells2 hG.r4
  have hlx := RowAt.lt hG.r4
  go_wp2_with fail
  go_at_call 20; refine (n3 _ _ hG.r4).mono ?_; rintro e w3 ⟨rfl, hr, hg⟩
  replace hG := hG.num hr hg
  clear y0 y1 y2 y3 y4 y5 y6 y7 y8 y9 y10 y11 yf hly x0 x1 xf hlx hr hg
  obtain ⟨⟨y0, y1, y2, y3, y4, y5⟩, ⟨y6, y7, y8, y9, y10, y11⟩, yf, hly⟩ := cells12' hG.r5
  obtain ⟨x0, x1, xf⟩ := cells2 hG.r4
  have hlx := RowAt.lt hG.r4
  go_upto_region 8 with fail
  replace hG := hG.set 3 (.int .i64 (c : Int))
  generalize w3.setCell ⟨g5, 3, none⟩ (.int .i64 (c : Int)) = w3' at *
  simp only [List.set_cons_succ, List.set_cons_zero] at hG
  clear y0 y1 y2 y3 y4 y5 y6 y7 y8 y9 y10 y11 yf hly x0 x1 xf hlx
  obtain ⟨⟨y0, y1, y2, y3, y4, y5⟩, ⟨y6, y7, y8, y9, y10, y11⟩, yf, hly⟩ := cells12' hG.r5
  obtain ⟨x0, x1, xf⟩ := cells2 hG.r4
  have hlx := RowAt.lt hG.r4
  have wi : IntKind.i64.wrap (i : Int) = (i : Int) := by rw [IntKind.wrap_i64]; omega
  go_wp2_with fail
  go_at_call 20; refine (n4 _ _ hG.r4).mono ?_; rintro e w4 ⟨rfl, hr, hg⟩
  replace hG := hG.num hr hg
  clear y0 y1 y2 y3 y4 y5 y6 y7 y8 y9 y10 y11 yf hly x0 x1 xf hlx hr hg
  obtain ⟨⟨y0, y1, y2, y3, y4, y5⟩, ⟨y6, y7, y8, y9, y10, y11⟩, yf, hly⟩ := cells12' hG.r5
  obtain ⟨x0, x1, xf⟩ := cells2 hG.r4
  have hlx := RowAt.lt hG.r4
  go_upto_region 16 with fail
  replace hG := hG.set 10 (.int .i64 (i : Int))
  generalize w4.setCell ⟨g5, 10, none⟩ (.int .i64 (i : Int)) = w4' at *
  simp only [List.set_cons_succ, List.set_cons_zero] at hG
  clear y0 y1 y2 y3 y4 y5 y6 y7 y8 y9 y10 y11 yf hly x0 x1 xf hlx
  obtain ⟨⟨y0, y1, y2, y3, y4, y5⟩, ⟨y6, y7, y8, y9, y10, y11⟩, yf, hly⟩ := cells12' hG.r5
  obtain ⟨x0, x1, xf⟩ := cells2 hG.r4
  have hlx := RowAt.lt hG.r4
  go_wp2_with fail
  go_at_call 23; refine (cPut _).mono ?_; rintro e w9 ⟨rfl, hb9⟩
  replace hG := hG.below hb9
  clear y0 y1 y2 y3 y4 y5 y6 y7 y8 y9 y10 y11 yf hly x0 x1 xf hlx hb9
  obtain ⟨⟨y0, y1, y2, y3, y4, y5⟩, ⟨y6, y7, y8, y9, y10, y11⟩, yf, hly⟩ := cells12' hG.r5
  obtain ⟨x0, x1, xf⟩ := cells2 hG.r4
  have hlx := RowAt.lt hG.r4
  obtain ⟨⟨z0, z1, z2, z3, z4, z5⟩, ⟨z6, z7, z8, z9, z10, z11⟩, zf, hlz⟩ := cells12' hG.r2
  have hgw2 := hG.h2
  cases hoo : o4
  · have HV := HN (by rw [hoo]; simp)
    simp only [hoo] at *
    go_wp2_with fail
    refine bodyPost_ret (v := .tuple #[.agg #[.int .u8 0, .int .i64 0, .int .u64 0, .int .i64 0, .bool false, .int .u64 0, .int .u64 0, .int .i64 0, .int .u8 0, .int .i64 0, .int .i64 0, .int .i64 0], .int .i64 7]) ?_ rfl ⟨by rw [HV.out], ?_⟩
    any_goals (rw [results_cell_tmp rfl]; go_simp)
    all_goals (repeat' (first | with_reducible exact hG.hB | with_reducible apply below_drew | with_reducible refine bset ?_ (by omega)))
  by_cases hwy : wy = 0
  · subst hwy
    by_cases hts : TT = S
    · have HV := HY ⟨hoo, rfl, hts⟩
      subst hts
      simp only [hoo] at *
      go_wp2_with fail
      refine bodyPost_ret (v := .tuple #[.agg #[.int .u8 6, .int .i64 (a : Int), .int .u64 (b : Int), .int .i64 (c : Int), .bool false, .int .u64 0, .int .u64 0, .int .i64 0, .int .u8 0, .int .i64 0, .int .i64 (i : Int), .int .i64 0], .int .i64 0]) ?_ rfl ⟨by rw [HV.out], ?_⟩
      any_goals (rw [results_cell_tmp rfl]; go_simp)
      all_goals (repeat' (first | with_reducible exact hG.hB | with_reducible apply below_drew | with_reducible refine bset ?_ (by omega)))
    · have HV := HN (fun c => hts c.2.2)
      have hq : (TT.toList == S.toList) = false := beq_eq_false_iff_ne.2 (fun c => hts (toList_inj c))
      simp only [hoo] at *
      go_wp2_with fail
      refine bodyPost_ret (v := .tuple #[.agg #[.int .u8 0, .int .i64 0, .int .u64 0, .int .i64 0, .bool false, .int .u64 0, .int .u64 0, .int .i64 0, .int .u8 0, .int .i64 0, .int .i64 0, .int .i64 0], .int .i64 7]) ?_ rfl ⟨by rw [HV.out], ?_⟩
      any_goals (rw [results_cell_tmp rfl]; go_simp)
      all_goals (repeat' (first | with_reducible exact hG.hB | with_reducible apply below_drew | with_reducible refine bset ?_ (by omega)))
  · have HV := HN (fun c => hwy c.2.1)
    have hq1 : (wy == 0) = false := beq_eq_false_iff_ne.2 hwy
    have hq2 : (wy != 0) = true := bne_iff_ne.2 hwy
    simp only [hoo] at *
    go_wp2_with fail
    refine bodyPost_ret (v := .tuple #[.agg #[.int .u8 0, .int .i64 0, .int .u64 0, .int .i64 0, .bool false, .int .u64 0, .int .u64 0, .int .i64 0, .int .u8 0, .int .i64 0, .int .i64 0, .int .i64 0], .int .i64 7]) ?_ rfl ⟨by rw [HV.out], ?_⟩
    any_goals (rw [results_cell_tmp rfl]; go_simp)
    all_goals (repeat' (first | with_reducible exact hG.hB | with_reducible apply below_drew | with_reducible refine bset ?_ (by omega)))
end Go.Proofs.YtopabkkapbaibaaGreat.Msg
namespace Go.Proofs.YtopabkkapbaibaaGreat.Msg
open Go.RowKit
open Go.Proofs.YtopabkkapbaibaaGreat.Addr (Pf okP checkP wideN firstN kP hiN loN adV pfV RowAt below2 below_drew below_new bset RowAt.lt RowAt.cell RowAt.frozen RowAt.below RowAt.drew RowAt.new RowAt.alloc gdrew gset gbelow galloc grefl gfinal cells2 cells4 results_cell Bl bl_ne wp_region_bl bl_call bl_same)

set_option maxRecDepth 20000 in
set_option maxHeartbeats 8000000 in
theorem rget_4 (S T : ByteArray) (w : World) (kb : UInt8) (hs : 1 ≤ (S.size : Int)) (h0 : ∀ h : 0 < S.size, S[0]'h = kb) (hx : S.extract 1 S.size = T) (hne : S.toList.isEmpty = false) (a b c : Nat) (TT : ByteArray) (wy : Int) (T1 T2 T3 : ByteArray) (o1 o2 o3 : Bool) (T4 : ByteArray) (sx : Bool) (hi lo l y : Int)
    (n1 : ∀ (g : Nat) (W : World), RowAt W g [.string T, .bool true] 61 → Calls Tryz.prog 20 #[.pointer (some ⟨g, 0, none⟩), .int .u64 1048576] W fun e w' => e = .returned (.int .u64 (a : Int)) ∧ RowAt w' g [.string T1, .bool o1] 61 ∧ W.grownBy w' (some g))
    (n2 : ∀ (g : Nat) (W : World), RowAt W g [.string T1, .bool o1] 61 → Calls Tryz.prog 20 #[.pointer (some ⟨g, 0, none⟩), .int .u64 1099511627776] W fun e w' => e = .returned (.int .u64 (b : Int)) ∧ RowAt w' g [.string T2, .bool o2] 61 ∧ W.grownBy w' (some g))
    (n3 : ∀ (g : Nat) (W : World), RowAt W g [.string T2, .bool o2] 61 → Calls Tryz.prog 20 #[.pointer (some ⟨g, 0, none⟩), .int .u64 1099511627776] W fun e w' => e = .returned (.int .u64 (c : Int)) ∧ RowAt w' g [.string T3, .bool o3] 61 ∧ W.grownBy w' (some g))
    (ha : (a : Int) ≤ 1048576) (hc : (c : Int) ≤ 1099511627776)
    (hk : kb = 4) (cP : ∀ W : World, Calls Tryz.prog 21 #[.string T3] W fun e w' => e = .returned (.tuple #[.agg #[.bool sx, .int .u64 hi, .int .u64 lo, .int .i64 l], .string T4, .int .i64 y]) ∧ Below W.heap.size W w')
    (cPut : ∀ W : World, Calls Tryz.prog 23 #[.agg #[.int .u8 4, .int .i64 (a : Int), .int .u64 (b : Int), .int .i64 (c : Int), .bool sx, .int .u64 hi, .int .u64 lo, .int .i64 l, .int .u8 0, .int .i64 0, .int .i64 0, .int .i64 0]] W fun e w' => e = .returned (.tuple #[.string TT, .int .i64 wy]) ∧ Below W.heap.size W w')
    (R : Value) (HY : ((o3 && decide (y = 0))) = true ∧ wy = 0 ∧ TT = S → Hid (R = .tuple #[.agg #[.int .u8 4, .int .i64 (a : Int), .int .u64 (b : Int), .int .i64 (c : Int), .bool sx, .int .u64 hi, .int .u64 lo, .int .i64 l, .int .u8 0, .int .i64 0, .int .i64 0, .int .i64 0], .int .i64 0])) (HN : ¬ (((o3 && decide (y = 0))) = true ∧ wy = 0 ∧ TT = S) → Hid (R = .tuple #[.agg #[.int .u8 0, .int .i64 0, .int .u64 0, .int .i64 0, .bool false, .int .u64 0, .int .u64 0, .int .i64 0, .int .u8 0, .int .i64 0, .int .i64 0, .int .i64 0], .int .i64 7])) :
    Calls Tryz.prog 15 #[.string S] w fun e w' => e = .returned R ∧ Below w.heap.size w w' := by
  subst hk
  have wa : IntKind.i64.wrap (a : Int) = (a : Int) := by rw [IntKind.wrap_i64]; omega
  have wc : IntKind.i64.wrap (c : Int) = (c : Int) := by rw [IntKind.wrap_i64]; omega
  obtain ⟨X, hX⟩ : ∃ X, X = w.alloc (.cells #[.int .u8 0, .int .i64 0, .int .u64 0, .int .i64 0, .bool false, .int .u64 0, .int .u64 0, .int .i64 0, .int .u8 0, .int .i64 0, .int .i64 0, .int .i64 0] 35) := ⟨_, rfl⟩
  have hB : Below w.heap.size w X := by rw [hX]; exact below_new (Below.refl _ _) _
  have rx : RowAt X w.heap.size [.int .u8 0, .int .i64 0, .int .u64 0, .int .i64 0, .bool false, .int .u64 0, .int .u64 0, .int .i64 0, .int .u8 0, .int .i64 0, .int .i64 0, .int .i64 0] 35 := by rw [hX]; exact RowAt.new _ _ _
  go_enter Tryz.func15, Tryz.ntmps15
  go_upto_region 1 with fail
  rw [← hX]
  clear hX
  have hlX := RowAt.lt rx
  obtain ⟨g2, hg2⟩ : ∃ g, g = w.heap.size := ⟨_, rfl⟩
  have hgw : w.heap.size ≤ g2 := by omega
  rw [← hg2] at rx hlX ⊢
  clear hg2
  go_upto_region 3 with fail
  go_upto_region 4 with fail
  obtain ⟨Y, hY⟩ : ∃ Y, Y = X.alloc (.cells #[.string T, .bool true] 61) := ⟨_, rfl⟩
  have hbY : Below X.heap.size X Y := by rw [hY]; exact below_new (Below.refl _ _) _
  have r4 : RowAt Y X.heap.size [.string T, .bool true] 61 := by rw [hY]; exact RowAt.new _ _ _
  rw [← hY]
  replace rx := RowAt.below rx hbY
  replace hB := below2 hB hbY
  obtain ⟨g4, hg4⟩ : ∃ g, g = X.heap.size := ⟨_, rfl⟩
  rw [← hg4] at r4 hlX ⊢
  clear hg4 hY hbY
  go_upto_region 5 with fail
  obtain ⟨Z, hZ⟩ : ∃ Z, Z = Y.alloc (.cells #[.int .u8 4, .int .i64 0, .int .u64 0, .int .i64 0, .bool false, .int .u64 0, .int .u64 0, .int .i64 0, .int .u8 0, .int .i64 0, .int .i64 0, .int .i64 0] 35) := ⟨_, rfl⟩
  have hbZ : Below Y.heap.size Y Z := by rw [hZ]; exact below_new (Below.refl _ _) _
  have r5 : RowAt Z Y.heap.size [.int .u8 4, .int .i64 0, .int .u64 0, .int .i64 0, .bool false, .int .u64 0, .int .u64 0, .int .i64 0, .int .u8 0, .int .i64 0, .int .i64 0, .int .i64 0] 35 := by rw [hZ]; exact RowAt.new _ _ _
  rw [← hZ]
  replace rx := RowAt.below rx hbZ
  have hl4 := RowAt.lt r4
  replace r4 := RowAt.below r4 hbZ
  replace hB := below2 hB hbZ
  obtain ⟨g5, hg5⟩ : ∃ g, g = Y.heap.size := ⟨_, rfl⟩
  rw [← hg5] at r5 hl4 ⊢
  clear hg5 hZ hbZ
  have hG : RG w Z g2 g4 g5 T true [.int .u8 4, .int .i64 0, .int .u64 0, .int .i64 0, .bool false, .int .u64 0, .int .u64 0, .int .i64 0, .int .u8 0, .int .i64 0, .int .i64 0, .int .i64 0] := ⟨rx, r4, r5, hB, hgw, hlX, hl4⟩
  clear rx r4 r5 hB h0 hx hs hne
  have hg24 := hlX
  have hg45 := hl4
  clear hlX hl4
  obtain ⟨⟨y0, y1, y2, y3, y4, y5⟩, ⟨y6, y7, y8, y9, y10, y11⟩, yf, hly⟩ := cells12' hG.r5
  obtain ⟨x0, x1, xf⟩ := cells2 hG.r4
  have hlx := RowAt.lt hG.r4
  go_wp2_with fail
  go_at_call 20; refine (n1 _ _ hG.r4).mono ?_; rintro e w1 ⟨rfl, hr, hg⟩
  replace hG := hG.num hr hg
  clear y0 y1 y2 y3 y4 y5 y6 y7 y8 y9 y10 y11 yf hly x0 x1 xf hlx hr hg
  obtain ⟨⟨y0, y1, y2, y3, y4, y5⟩, ⟨y6, y7, y8, y9, y10, y11⟩, yf, hly⟩ := cells12' hG.r5
  obtain ⟨x0, x1, xf⟩ := cells2 hG.r4
  have hlx := RowAt.lt hG.r4
  go_upto_region 6 with fail
  replace hG := hG.set 1 (.int .i64 (a : Int))
  generalize w1.setCell ⟨g5, 1, none⟩ (.int .i64 (a : Int)) = w1' at *
  simp only [List.set_cons_succ, List.set_cons_zero] at hG
  clear y0 y1 y2 y3 y4 y5 y6 y7 y8 y9 y10 y11 yf hly x0 x1 xf hlx
  obtain ⟨⟨y0, y1, y2, y3, y4, y5⟩, ⟨y6, y7, y8, y9, y10, y11⟩, yf, hly⟩ := cells12' hG.r5
  obtain ⟨x0, x1, xf⟩ := cells2 hG.r4
  have hlx := RowAt.lt hG.r4
  go_wp2_with fail
  go_at_call 20; refine (n2 _ _ hG.r4).mono ?_; rintro e w2 ⟨rfl, hr, hg⟩
  replace hG := hG.num hr hg
  clear y0 y1 y2 y3 y4 y5 y6 y7 y8 y9 y10 y11 yf hly x0 x1 xf hlx hr hg
  obtain ⟨⟨y0, y1, y2, y3, y4, y5⟩, ⟨y6, y7, y8, y9, y10, y11⟩, yf, hly⟩ := cells12' hG.r5
  obtain ⟨x0, x1, xf⟩ := cells2 hG.r4
  have hlx := RowAt.lt hG.r4
  go_upto_region 7 with fail
  replace hG := hG.set 2 (.int .u64 (b : Int))
  generalize w2.setCell ⟨g5, 2, none⟩ (.int .u64 (b : Int)) = w2' at *
  simp only [List.set_cons_succ, List.set_cons_zero] at hG
  clear y0 y1 y2 y3 y4 y5 y6 y7 y8 y9 y10 y11 yf hly x0 x1 xf hlx
  obtain ⟨⟨y0, y1, y2, y3, y4, y5⟩, ⟨y6, y7, y8, y9, y10, y11⟩, yf, hly⟩ := cells12' hG.r5
  obtain ⟨x0, x1, xf⟩ := cells2 hG.r4
  have hlx := RowAt.lt hG.r4
  go_wp2_with fail
  go_at_call 20; refine (n3 _ _ hG.r4).mono ?_; rintro e w3 ⟨rfl, hr, hg⟩
  replace hG := hG.num hr hg
  clear y0 y1 y2 y3 y4 y5 y6 y7 y8 y9 y10 y11 yf hly x0 x1 xf hlx hr hg
  obtain ⟨⟨y0, y1, y2, y3, y4, y5⟩, ⟨y6, y7, y8, y9, y10, y11⟩, yf, hly⟩ := cells12' hG.r5
  obtain ⟨x0, x1, xf⟩ := cells2 hG.r4
  have hlx := RowAt.lt hG.r4
  go_upto_region 8 with fail
  replace hG := hG.set 3 (.int .i64 (c : Int))
  generalize w3.setCell ⟨g5, 3, none⟩ (.int .i64 (c : Int)) = w3' at *
  simp only [List.set_cons_succ, List.set_cons_zero] at hG
  clear y0 y1 y2 y3 y4 y5 y6 y7 y8 y9 y10 y11 yf hly x0 x1 xf hlx
  obtain ⟨⟨y0, y1, y2, y3, y4, y5⟩, ⟨y6, y7, y8, y9, y10, y11⟩, yf, hly⟩ := cells12' hG.r5
  obtain ⟨x0, x1, xf⟩ := cells2 hG.r4
  have hlx := RowAt.lt hG.r4
  go_wp2_with fail
  go_at_call 21; refine (cP _).mono ?_; rintro e v1 ⟨rfl, hb⟩
  replace hG := hG.below hb
  clear y0 y1 y2 y3 y4 y5 y6 y7 y8 y9 y10 y11 yf hly x0 x1 xf hlx hb
  obtain ⟨⟨y0, y1, y2, y3, y4, y5⟩, ⟨y6, y7, y8, y9, y10, y11⟩, yf, hly⟩ := cells12' hG.r5
  obtain ⟨x0, x1, xf⟩ := cells2 hG.r4
  have hlx := RowAt.lt hG.r4
  go_upto_region 10 with fail
  have hl5 := RowAt.lt hG.r5
  obtain ⟨Vv1, hV⟩ : ∃ V, V = v1.alloc (.cells #[.bool sx, .int .u64 hi, .int .u64 lo, .int .i64 l] 30) := ⟨_, rfl⟩
  have hbV : Below v1.heap.size v1 Vv1 := by rw [hV]; exact below_new (Below.refl _ _) _
  have r6 : RowAt Vv1 v1.heap.size [.bool sx, .int .u64 hi, .int .u64 lo, .int .i64 l] 30 := by rw [hV]; exact RowAt.new _ _ _
  rw [← hV]
  replace hG := hG.below hbV
  obtain ⟨g6, hg6⟩ : ∃ g, g = v1.heap.size := ⟨_, rfl⟩
  rw [← hg6] at r6 hl5 ⊢
  clear hg6 hV hbV
  clear y0 y1 y2 y3 y4 y5 y6 y7 y8 y9 y10 y11 yf hly x0 x1 xf hlx
  obtain ⟨⟨y0, y1, y2, y3, y4, y5⟩, ⟨y6, y7, y8, y9, y10, y11⟩, yf, hly⟩ := cells12' hG.r5
  obtain ⟨x0, x1, xf⟩ := cells2 hG.r4
  have hlx := RowAt.lt hG.r4
  obtain ⟨m0, m1, m2, m3, mf⟩ := cells4 r6
  have hl6 := RowAt.lt r6
  go_cut [4] (fun v wc => v = .pointer (some ⟨g4, 0, none⟩) ∧ RG w wc g2 g4 g5 T4 (o3 && decide (y = 0)) [.int .u8 4, .int .i64 (a : Int), .int .u64 (b : Int), .int .i64 (c : Int), .bool sx, .int .u64 hi, .int .u64 lo, .int .i64 l, .int .u8 0, .int .i64 0, .int .i64 0, .int .i64 0])
  case first =>
    clear HY HN cPut n1 n2 n3
    cases o3
    · go_region
      all_goals go_wp2_with fail
      all_goals go_meet
      all_goals
        have s := (((((((hG).set 4 (.bool sx)).set 5 (.int .u64 hi)).set 6 (.int .u64 lo)).set 7 (.int .i64 l)).set4 T4).set4b false).drew
        simp only [List.set_cons_succ, List.set_cons_zero] at s
        refine ⟨rfl, ?_⟩
        (first | exact s | (rw [decide_eq_false hyz.out]; exact s))
    · by_cases hyy : y = 0
      · subst hyy
        go_region
        all_goals go_wp2_with fail
        all_goals go_meet
        all_goals
          have s := (((((((hG).set 4 (.bool sx)).set 5 (.int .u64 hi)).set 6 (.int .u64 lo)).set 7 (.int .i64 l)).set4 T4).set4b true).drew
          simp only [List.set_cons_succ, List.set_cons_zero] at s
          refine ⟨rfl, ?_⟩
          (first | exact s | (rw [decide_eq_false hyz.out]; exact s))
      · have q1 : (y == 0) = false := beq_eq_false_iff_ne.2 hyy
        have hyz : Hid (¬ y = 0) := hyy
        clear hyy
        go_region
        all_goals go_wp2_with fail
        all_goals go_meet
        all_goals
          have s := (((((((hG).set 4 (.bool sx)).set 5 (.int .u64 hi)).set 6 (.int .u64 lo)).set 7 (.int .i64 l)).set4 T4).set4b false).drew
          simp only [List.set_cons_succ, List.set_cons_zero] at s
          refine ⟨rfl, ?_⟩
          (first | exact s | (rw [decide_eq_false hyz.out]; exact s))
  case rest =>
  clear hG m0 m1 m2 m3 mf hl5 hl6 r6
  clear y0 y1 y2 y3 y4 y5 y6 y7 y8 y9 y10 y11 yf hly x0 x1 xf hlx
  obtain ⟨rfl, hG⟩ := hcut
  obtain ⟨⟨y0, y1, y2, y3, y4, y5⟩, ⟨y6, y7, y8, y9, y10, y11⟩, yf, hly⟩ := cells12' hG.r5
  obtain ⟨x0, x1, xf⟩ := cells2 hG.r4
  have hlx := RowAt.lt hG.r4
  go_wp2_with fail
  go_at_call 23; refine (cPut _).mono ?_; rintro e w9 ⟨rfl, hb9⟩
  replace hG := hG.below hb9
  clear y0 y1 y2 y3 y4 y5 y6 y7 y8 y9 y10 y11 yf hly x0 x1 xf hlx hb9
  obtain ⟨⟨y0, y1, y2, y3, y4, y5⟩, ⟨y6, y7, y8, y9, y10, y11⟩, yf, hly⟩ := cells12' hG.r5
  obtain ⟨x0, x1, xf⟩ := cells2 hG.r4
  have hlx := RowAt.lt hG.r4
  obtain ⟨⟨z0, z1, z2, z3, z4, z5⟩, ⟨z6, z7, z8, z9, z10, z11⟩, zf, hlz⟩ := cells12' hG.r2
  have hgw2 := hG.h2
  cases hoo : (o3 && decide (y = 0))
  · have HV := HN (by rw [hoo]; simp)
    simp only [hoo] at *
    go_wp2_with fail
    refine bodyPost_ret (v := .tuple #[.agg #[.int .u8 0, .int .i64 0, .int .u64 0, .int .i64 0, .bool false, .int .u64 0, .int .u64 0, .int .i64 0, .int .u8 0, .int .i64 0, .int .i64 0, .int .i64 0], .int .i64 7]) ?_ rfl ⟨by rw [HV.out], ?_⟩
    any_goals (rw [results_cell_tmp rfl]; go_simp)
    all_goals (repeat' (first | with_reducible exact hG.hB | with_reducible apply below_drew | with_reducible refine bset ?_ (by omega)))
  by_cases hwy : wy = 0
  · subst hwy
    by_cases hts : TT = S
    · have HV := HY ⟨hoo, rfl, hts⟩
      subst hts
      simp only [hoo] at *
      go_wp2_with fail
      refine bodyPost_ret (v := .tuple #[.agg #[.int .u8 4, .int .i64 (a : Int), .int .u64 (b : Int), .int .i64 (c : Int), .bool sx, .int .u64 hi, .int .u64 lo, .int .i64 l, .int .u8 0, .int .i64 0, .int .i64 0, .int .i64 0], .int .i64 0]) ?_ rfl ⟨by rw [HV.out], ?_⟩
      any_goals (rw [results_cell_tmp rfl]; go_simp)
      all_goals (repeat' (first | with_reducible exact hG.hB | with_reducible apply below_drew | with_reducible refine bset ?_ (by omega)))
    · have HV := HN (fun c => hts c.2.2)
      have hq : (TT.toList == S.toList) = false := beq_eq_false_iff_ne.2 (fun c => hts (toList_inj c))
      simp only [hoo] at *
      go_wp2_with fail
      refine bodyPost_ret (v := .tuple #[.agg #[.int .u8 0, .int .i64 0, .int .u64 0, .int .i64 0, .bool false, .int .u64 0, .int .u64 0, .int .i64 0, .int .u8 0, .int .i64 0, .int .i64 0, .int .i64 0], .int .i64 7]) ?_ rfl ⟨by rw [HV.out], ?_⟩
      any_goals (rw [results_cell_tmp rfl]; go_simp)
      all_goals (repeat' (first | with_reducible exact hG.hB | with_reducible apply below_drew | with_reducible refine bset ?_ (by omega)))
  · have HV := HN (fun c => hwy c.2.1)
    have hq1 : (wy == 0) = false := beq_eq_false_iff_ne.2 hwy
    have hq2 : (wy != 0) = true := bne_iff_ne.2 hwy
    simp only [hoo] at *
    go_wp2_with fail
    refine bodyPost_ret (v := .tuple #[.agg #[.int .u8 0, .int .i64 0, .int .u64 0, .int .i64 0, .bool false, .int .u64 0, .int .u64 0, .int .i64 0, .int .u8 0, .int .i64 0, .int .i64 0, .int .i64 0], .int .i64 7]) ?_ rfl ⟨by rw [HV.out], ?_⟩
    any_goals (rw [results_cell_tmp rfl]; go_simp)
    all_goals (repeat' (first | with_reducible exact hG.hB | with_reducible apply below_drew | with_reducible refine bset ?_ (by omega)))
set_option maxRecDepth 20000 in
set_option maxHeartbeats 8000000 in
theorem rget_3 (S T : ByteArray) (w : World) (kb : UInt8) (hs : 1 ≤ (S.size : Int)) (h0 : ∀ h : 0 < S.size, S[0]'h = kb) (hx : S.extract 1 S.size = T) (hne : S.toList.isEmpty = false) (a b c : Nat) (TT : ByteArray) (wy : Int) (T1 T2 T3 : ByteArray) (o1 o2 o3 : Bool) (T4 T5 : ByteArray) (sx : Bool) (hi lo l y ak ai z : Int)
    (n1 : ∀ (g : Nat) (W : World), RowAt W g [.string T, .bool true] 61 → Calls Tryz.prog 20 #[.pointer (some ⟨g, 0, none⟩), .int .u64 1048576] W fun e w' => e = .returned (.int .u64 (a : Int)) ∧ RowAt w' g [.string T1, .bool o1] 61 ∧ W.grownBy w' (some g))
    (n2 : ∀ (g : Nat) (W : World), RowAt W g [.string T1, .bool o1] 61 → Calls Tryz.prog 20 #[.pointer (some ⟨g, 0, none⟩), .int .u64 1099511627776] W fun e w' => e = .returned (.int .u64 (b : Int)) ∧ RowAt w' g [.string T2, .bool o2] 61 ∧ W.grownBy w' (some g))
    (n3 : ∀ (g : Nat) (W : World), RowAt W g [.string T2, .bool o2] 61 → Calls Tryz.prog 20 #[.pointer (some ⟨g, 0, none⟩), .int .u64 1099511627776] W fun e w' => e = .returned (.int .u64 (c : Int)) ∧ RowAt w' g [.string T3, .bool o3] 61 ∧ W.grownBy w' (some g))
    (ha : (a : Int) ≤ 1048576) (hc : (c : Int) ≤ 1099511627776)
    (hk : kb = 3) (cP : ∀ W : World, Calls Tryz.prog 21 #[.string T3] W fun e w' => e = .returned (.tuple #[.agg #[.bool sx, .int .u64 hi, .int .u64 lo, .int .i64 l], .string T4, .int .i64 y]) ∧ Below W.heap.size W w')
    (cA : ∀ W : World, Calls Tryz.prog 22 #[.string T4] W fun e w' => e = .returned (.tuple #[.agg #[.int .u8 ak, .int .i64 ai], .string T5, .int .i64 z]) ∧ Below W.heap.size W w')
    (cPut : ∀ W : World, Calls Tryz.prog 23 #[.agg #[.int .u8 3, .int .i64 (a : Int), .int .u64 (b : Int), .int .i64 (c : Int), .bool sx, .int .u64 hi, .int .u64 lo, .int .i64 l, .int .u8 ak, .int .i64 ai, .int .i64 0, .int .i64 0]] W fun e w' => e = .returned (.tuple #[.string TT, .int .i64 wy]) ∧ Below W.heap.size W w')
    (R : Value) (HY : ((o3 && decide (y = 0) && decide (z = 0))) = true ∧ wy = 0 ∧ TT = S → Hid (R = .tuple #[.agg #[.int .u8 3, .int .i64 (a : Int), .int .u64 (b : Int), .int .i64 (c : Int), .bool sx, .int .u64 hi, .int .u64 lo, .int .i64 l, .int .u8 ak, .int .i64 ai, .int .i64 0, .int .i64 0], .int .i64 0])) (HN : ¬ (((o3 && decide (y = 0) && decide (z = 0))) = true ∧ wy = 0 ∧ TT = S) → Hid (R = .tuple #[.agg #[.int .u8 0, .int .i64 0, .int .u64 0, .int .i64 0, .bool false, .int .u64 0, .int .u64 0, .int .i64 0, .int .u8 0, .int .i64 0, .int .i64 0, .int .i64 0], .int .i64 7])) :
    Calls Tryz.prog 15 #[.string S] w fun e w' => e = .returned R ∧ Below w.heap.size w w' := by
  subst hk
  have wa : IntKind.i64.wrap (a : Int) = (a : Int) := by rw [IntKind.wrap_i64]; omega
  have wc : IntKind.i64.wrap (c : Int) = (c : Int) := by rw [IntKind.wrap_i64]; omega
  obtain ⟨X, hX⟩ : ∃ X, X = w.alloc (.cells #[.int .u8 0, .int .i64 0, .int .u64 0, .int .i64 0, .bool false, .int .u64 0, .int .u64 0, .int .i64 0, .int .u8 0, .int .i64 0, .int .i64 0, .int .i64 0] 35) := ⟨_, rfl⟩
  have hB : Below w.heap.size w X := by rw [hX]; exact below_new (Below.refl _ _) _
  have rx : RowAt X w.heap.size [.int .u8 0, .int .i64 0, .int .u64 0, .int .i64 0, .bool false, .int .u64 0, .int .u64 0, .int .i64 0, .int .u8 0, .int .i64 0, .int .i64 0, .int .i64 0] 35 := by rw [hX]; exact RowAt.new _ _ _
  go_enter Tryz.func15, Tryz.ntmps15
  go_upto_region 1 with fail
  rw [← hX]
  clear hX
  have hlX := RowAt.lt rx
  obtain ⟨g2, hg2⟩ : ∃ g, g = w.heap.size := ⟨_, rfl⟩
  have hgw : w.heap.size ≤ g2 := by omega
  rw [← hg2] at rx hlX ⊢
  clear hg2
  go_upto_region 3 with fail
  go_upto_region 4 with fail
  obtain ⟨Y, hY⟩ : ∃ Y, Y = X.alloc (.cells #[.string T, .bool true] 61) := ⟨_, rfl⟩
  have hbY : Below X.heap.size X Y := by rw [hY]; exact below_new (Below.refl _ _) _
  have r4 : RowAt Y X.heap.size [.string T, .bool true] 61 := by rw [hY]; exact RowAt.new _ _ _
  rw [← hY]
  replace rx := RowAt.below rx hbY
  replace hB := below2 hB hbY
  obtain ⟨g4, hg4⟩ : ∃ g, g = X.heap.size := ⟨_, rfl⟩
  rw [← hg4] at r4 hlX ⊢
  clear hg4 hY hbY
  go_upto_region 5 with fail
  obtain ⟨Z, hZ⟩ : ∃ Z, Z = Y.alloc (.cells #[.int .u8 3, .int .i64 0, .int .u64 0, .int .i64 0, .bool false, .int .u64 0, .int .u64 0, .int .i64 0, .int .u8 0, .int .i64 0, .int .i64 0, .int .i64 0] 35) := ⟨_, rfl⟩
  have hbZ : Below Y.heap.size Y Z := by rw [hZ]; exact below_new (Below.refl _ _) _
  have r5 : RowAt Z Y.heap.size [.int .u8 3, .int .i64 0, .int .u64 0, .int .i64 0, .bool false, .int .u64 0, .int .u64 0, .int .i64 0, .int .u8 0, .int .i64 0, .int .i64 0, .int .i64 0] 35 := by rw [hZ]; exact RowAt.new _ _ _
  rw [← hZ]
  replace rx := RowAt.below rx hbZ
  have hl4 := RowAt.lt r4
  replace r4 := RowAt.below r4 hbZ
  replace hB := below2 hB hbZ
  obtain ⟨g5, hg5⟩ : ∃ g, g = Y.heap.size := ⟨_, rfl⟩
  rw [← hg5] at r5 hl4 ⊢
  clear hg5 hZ hbZ
  have hG : RG w Z g2 g4 g5 T true [.int .u8 3, .int .i64 0, .int .u64 0, .int .i64 0, .bool false, .int .u64 0, .int .u64 0, .int .i64 0, .int .u8 0, .int .i64 0, .int .i64 0, .int .i64 0] := ⟨rx, r4, r5, hB, hgw, hlX, hl4⟩
  clear rx r4 r5 hB h0 hx hs hne
  have hg24 := hlX
  have hg45 := hl4
  clear hlX hl4
  obtain ⟨⟨y0, y1, y2, y3, y4, y5⟩, ⟨y6, y7, y8, y9, y10, y11⟩, yf, hly⟩ := cells12' hG.r5
  obtain ⟨x0, x1, xf⟩ := cells2 hG.r4
  have hlx := RowAt.lt hG.r4
  go_wp2_with fail
  go_at_call 20; refine (n1 _ _ hG.r4).mono ?_; rintro e w1 ⟨rfl, hr, hg⟩
  replace hG := hG.num hr hg
  clear y0 y1 y2 y3 y4 y5 y6 y7 y8 y9 y10 y11 yf hly x0 x1 xf hlx hr hg
  obtain ⟨⟨y0, y1, y2, y3, y4, y5⟩, ⟨y6, y7, y8, y9, y10, y11⟩, yf, hly⟩ := cells12' hG.r5
  obtain ⟨x0, x1, xf⟩ := cells2 hG.r4
  have hlx := RowAt.lt hG.r4
  go_upto_region 6 with fail
  replace hG := hG.set 1 (.int .i64 (a : Int))
  generalize w1.setCell ⟨g5, 1, none⟩ (.int .i64 (a : Int)) = w1' at *
  simp only [List.set_cons_succ, List.set_cons_zero] at hG
  clear y0 y1 y2 y3 y4 y5 y6 y7 y8 y9 y10 y11 yf hly x0 x1 xf hlx
  obtain ⟨⟨y0, y1, y2, y3, y4, y5⟩, ⟨y6, y7, y8, y9, y10, y11⟩, yf, hly⟩ := cells12' hG.r5
  obtain ⟨x0, x1, xf⟩ := cells2 hG.r4
  have hlx := RowAt.lt hG.r4
  go_wp2_with fail
  go_at_call 20; refine (n2 _ _ hG.r4).mono ?_; rintro e w2 ⟨rfl, hr, hg⟩
  replace hG := hG.num hr hg
  clear y0 y1 y2 y3 y4 y5 y6 y7 y8 y9 y10 y11 yf hly x0 x1 xf hlx hr hg
  obtain ⟨⟨y0, y1, y2, y3, y4, y5⟩, ⟨y6, y7, y8, y9, y10, y11⟩, yf, hly⟩ := cells12' hG.r5
  obtain ⟨x0, x1, xf⟩ := cells2 hG.r4
  have hlx := RowAt.lt hG.r4
  go_upto_region 7 with fail
  replace hG := hG.set 2 (.int .u64 (b : Int))
  generalize w2.setCell ⟨g5, 2, none⟩ (.int .u64 (b : Int)) = w2' at *
  simp only [List.set_cons_succ, List.set_cons_zero] at hG
  clear y0 y1 y2 y3 y4 y5 y6 y7 y8 y9 y10 y11 yf hly x0 x1 xf hlx
  obtain ⟨⟨y0, y1, y2, y3, y4, y5⟩, ⟨y6, y7, y8, y9, y10, y11⟩, yf, hly⟩ := cells12' hG.r5
  obtain ⟨x0, x1, xf⟩ := cells2 hG.r4
  have hlx := RowAt.lt hG.r4
  go_wp2_with fail
  go_at_call 20; refine (n3 _ _ hG.r4).mono ?_; rintro e w3 ⟨rfl, hr, hg⟩
  replace hG := hG.num hr hg
  clear y0 y1 y2 y3 y4 y5 y6 y7 y8 y9 y10 y11 yf hly x0 x1 xf hlx hr hg
  obtain ⟨⟨y0, y1, y2, y3, y4, y5⟩, ⟨y6, y7, y8, y9, y10, y11⟩, yf, hly⟩ := cells12' hG.r5
  obtain ⟨x0, x1, xf⟩ := cells2 hG.r4
  have hlx := RowAt.lt hG.r4
  go_upto_region 8 with fail
  replace hG := hG.set 3 (.int .i64 (c : Int))
  generalize w3.setCell ⟨g5, 3, none⟩ (.int .i64 (c : Int)) = w3' at *
  simp only [List.set_cons_succ, List.set_cons_zero] at hG
  clear y0 y1 y2 y3 y4 y5 y6 y7 y8 y9 y10 y11 yf hly x0 x1 xf hlx
  obtain ⟨⟨y0, y1, y2, y3, y4, y5⟩, ⟨y6, y7, y8, y9, y10, y11⟩, yf, hly⟩ := cells12' hG.r5
  obtain ⟨x0, x1, xf⟩ := cells2 hG.r4
  have hlx := RowAt.lt hG.r4
  go_wp2_with fail
  go_at_call 21; refine (cP _).mono ?_; rintro e v1 ⟨rfl, hb⟩
  replace hG := hG.below hb
  clear y0 y1 y2 y3 y4 y5 y6 y7 y8 y9 y10 y11 yf hly x0 x1 xf hlx hb
  obtain ⟨⟨y0, y1, y2, y3, y4, y5⟩, ⟨y6, y7, y8, y9, y10, y11⟩, yf, hly⟩ := cells12' hG.r5
  obtain ⟨x0, x1, xf⟩ := cells2 hG.r4
  have hlx := RowAt.lt hG.r4
  go_upto_region 10 with fail
  have hl5 := RowAt.lt hG.r5
  obtain ⟨Vv1, hV⟩ : ∃ V, V = v1.alloc (.cells #[.bool sx, .int .u64 hi, .int .u64 lo, .int .i64 l] 30) := ⟨_, rfl⟩
  have hbV : Below v1.heap.size v1 Vv1 := by rw [hV]; exact below_new (Below.refl _ _) _
  have r6 : RowAt Vv1 v1.heap.size [.bool sx, .int .u64 hi, .int .u64 lo, .int .i64 l] 30 := by rw [hV]; exact RowAt.new _ _ _
  rw [← hV]
  replace hG := hG.below hbV
  obtain ⟨g6, hg6⟩ : ∃ g, g = v1.heap.size := ⟨_, rfl⟩
  rw [← hg6] at r6 hl5 ⊢
  clear hg6 hV hbV
  clear y0 y1 y2 y3 y4 y5 y6 y7 y8 y9 y10 y11 yf hly x0 x1 xf hlx
  obtain ⟨⟨y0, y1, y2, y3, y4, y5⟩, ⟨y6, y7, y8, y9, y10, y11⟩, yf, hly⟩ := cells12' hG.r5
  obtain ⟨x0, x1, xf⟩ := cells2 hG.r4
  have hlx := RowAt.lt hG.r4
  obtain ⟨m0, m1, m2, m3, mf⟩ := cells4 r6
  have hl6 := RowAt.lt r6
  go_cut [4] (fun v wc => v = .pointer (some ⟨g4, 0, none⟩) ∧ RG w wc g2 g4 g5 T4 (o3 && decide (y = 0)) [.int .u8 3, .int .i64 (a : Int), .int .u64 (b : Int), .int .i64 (c : Int), .bool sx, .int .u64 hi, .int .u64 lo, .int .i64 l, .int .u8 0, .int .i64 0, .int .i64 0, .int .i64 0])
  case first =>
    clear HY HN cPut n1 n2 n3
    cases o3
    · go_region
      all_goals go_wp2_with fail
      all_goals go_meet
      all_goals
        have s := (((((((hG).set 4 (.bool sx)).set 5 (.int .u64 hi)).set 6 (.int .u64 lo)).set 7 (.int .i64 l)).set4 T4).set4b false).drew
        simp only [List.set_cons_succ, List.set_cons_zero] at s
        refine ⟨rfl, ?_⟩
        (first | exact s | (rw [decide_eq_false hyz.out]; exact s))
    · by_cases hyy : y = 0
      · subst hyy
        go_region
        all_goals go_wp2_with fail
        all_goals go_meet
        all_goals
          have s := (((((((hG).set 4 (.bool sx)).set 5 (.int .u64 hi)).set 6 (.int .u64 lo)).set 7 (.int .i64 l)).set4 T4).set4b true).drew
          simp only [List.set_cons_succ, List.set_cons_zero] at s
          refine ⟨rfl, ?_⟩
          (first | exact s | (rw [decide_eq_false hyz.out]; exact s))
      · have q1 : (y == 0) = false := beq_eq_false_iff_ne.2 hyy
        have hyz : Hid (¬ y = 0) := hyy
        clear hyy
        go_region
        all_goals go_wp2_with fail
        all_goals go_meet
        all_goals
          have s := (((((((hG).set 4 (.bool sx)).set 5 (.int .u64 hi)).set 6 (.int .u64 lo)).set 7 (.int .i64 l)).set4 T4).set4b false).drew
          simp only [List.set_cons_succ, List.set_cons_zero] at s
          refine ⟨rfl, ?_⟩
          (first | exact s | (rw [decide_eq_false hyz.out]; exact s))
  case rest =>
  clear hG m0 m1 m2 m3 mf hl5 hl6 r6
  clear y0 y1 y2 y3 y4 y5 y6 y7 y8 y9 y10 y11 yf hly x0 x1 xf hlx
  obtain ⟨rfl, hG⟩ := hcut
  obtain ⟨⟨y0, y1, y2, y3, y4, y5⟩, ⟨y6, y7, y8, y9, y10, y11⟩, yf, hly⟩ := cells12' hG.r5
  obtain ⟨x0, x1, xf⟩ := cells2 hG.r4
  have hlx := RowAt.lt hG.r4
  generalize hoy : (o3 && decide (y = 0)) = o4 at *
  go_wp2_with fail
  go_at_call 22; refine (cA _).mono ?_; rintro e v2 ⟨rfl, hb⟩
  replace hG := hG.below hb
  clear y0 y1 y2 y3 y4 y5 y6 y7 y8 y9 y10 y11 yf hly x0 x1 xf hlx hb
  obtain ⟨⟨y0, y1, y2, y3, y4, y5⟩, ⟨y6, y7, y8, y9, y10, y11⟩, yf, hly⟩ := cells12' hG.r5
  obtain ⟨x0, x1, xf⟩ := cells2 hG.r4
  have hlx := RowAt.lt hG.r4
  go_upto_region 13 with fail
  have hl5 := RowAt.lt hG.r5
  obtain ⟨Vv2, hV⟩ : ∃ V, V = v2.alloc (.cells #[.int .u8 ak, .int .i64 ai] 33) := ⟨_, rfl⟩
  have hbV : Below v2.heap.size v2 Vv2 := by rw [hV]; exact below_new (Below.refl _ _) _
  have r6 : RowAt Vv2 v2.heap.size [.int .u8 ak, .int .i64 ai] 33 := by rw [hV]; exact RowAt.new _ _ _
  rw [← hV]
  replace hG := hG.below hbV
  obtain ⟨g6, hg6⟩ : ∃ g, g = v2.heap.size := ⟨_, rfl⟩
  rw [← hg6] at r6 hl5 ⊢
  clear hg6 hV hbV
  clear y0 y1 y2 y3 y4 y5 y6 y7 y8 y9 y10 y11 yf hly x0 x1 xf hlx
  obtain ⟨⟨y0, y1, y2, y3, y4, y5⟩, ⟨y6, y7, y8, y9, y10, y11⟩, yf, hly⟩ := cells12' hG.r5
  obtain ⟨x0, x1, xf⟩ := cells2 hG.r4
  have hlx := RowAt.lt hG.r4
  obtain ⟨m0, m1, mf⟩ := cells2 r6
  have hl6 := RowAt.lt r6
  go_cut [4] (fun v wc => v = .pointer (some ⟨g4, 0, none⟩) ∧ RG w wc g2 g4 g5 T5 (o4 && decide (z = 0)) [.int .u8 3, .int .i64 (a : Int), .int .u64 (b : Int), .int .i64 (c : Int), .bool sx, .int .u64 hi, .int .u64 lo, .int .i64 l, .int .u8 ak, .int .i64 ai, .int .i64 0, .int .i64 0])
  case first =>
    clear HY HN cPut n1 n2 n3
    cases o4
    · go_region
      all_goals go_wp2_with fail
      all_goals go_meet
      all_goals
        have s := (((((hG).set 8 (.int .u8 ak)).set 9 (.int .i64 ai)).set4 T5).set4b false).drew
        simp only [List.set_cons_succ, List.set_cons_zero] at s
        refine ⟨rfl, ?_⟩
        (first | exact s | (rw [decide_eq_false hyz.out]; exact s))
    · by_cases hyy : z = 0
      · subst hyy
        go_region
        all_goals go_wp2_with fail
        all_goals go_meet
        all_goals
          have s := (((((hG).set 8 (.int .u8 ak)).set 9 (.int .i64 ai)).set4 T5).set4b true).drew
          simp only [List.set_cons_succ, List.set_cons_zero] at s
          refine ⟨rfl, ?_⟩
          (first | exact s | (rw [decide_eq_false hyz.out]; exact s))
      · have q1 : (z == 0) = false := beq_eq_false_iff_ne.2 hyy
        have hyz : Hid (¬ z = 0) := hyy
        clear hyy
        go_region
        all_goals go_wp2_with fail
        all_goals go_meet
        all_goals
          have s := (((((hG).set 8 (.int .u8 ak)).set 9 (.int .i64 ai)).set4 T5).set4b false).drew
          simp only [List.set_cons_succ, List.set_cons_zero] at s
          refine ⟨rfl, ?_⟩
          (first | exact s | (rw [decide_eq_false hyz.out]; exact s))
  case rest =>
  clear hG m0 m1 mf hl5 hl6 r6
  clear y0 y1 y2 y3 y4 y5 y6 y7 y8 y9 y10 y11 yf hly x0 x1 xf hlx
  obtain ⟨rfl, hG⟩ := hcut
  obtain ⟨⟨y0, y1, y2, y3, y4, y5⟩, ⟨y6, y7, y8, y9, y10, y11⟩, yf, hly⟩ := cells12' hG.r5
  obtain ⟨x0, x1, xf⟩ := cells2 hG.r4
  have hlx := RowAt.lt hG.r4
  go_wp2_with fail
  go_at_call 23; refine (cPut _).mono ?_; rintro e w9 ⟨rfl, hb9⟩
  replace hG := hG.below hb9
  clear y0 y1 y2 y3 y4 y5 y6 y7 y8 y9 y10 y11 yf hly x0 x1 xf hlx hb9
  obtain ⟨⟨y0, y1, y2, y3, y4, y5⟩, ⟨y6, y7, y8, y9, y10, y11⟩, yf, hly⟩ := cells12' hG.r5
  obtain ⟨x0, x1, xf⟩ := cells2 hG.r4
  have hlx := RowAt.lt hG.r4
  obtain ⟨⟨z0, z1, z2, z3, z4, z5⟩, ⟨z6, z7, z8, z9, z10, z11⟩, zf, hlz⟩ := cells12' hG.r2
  have hgw2 := hG.h2
  cases hoo : (o4 && decide (z = 0))
  · have HV := HN (by rw [hoo]; simp)
    simp only [hoo] at *
    go_wp2_with fail
    refine bodyPost_ret (v := .tuple #[.agg #[.int .u8 0, .int .i64 0, .int .u64 0, .int .i64 0, .bool false, .int .u64 0, .int .u64 0, .int .i64 0, .int .u8 0, .int .i64 0, .int .i64 0, .int .i64 0], .int .i64 7]) ?_ rfl ⟨by rw [HV.out], ?_⟩
    any_goals (rw [results_cell_tmp rfl]; go_simp)
    all_goals (repeat' (first | with_reducible exact hG.hB | with_reducible apply below_drew | with_reducible refine bset ?_ (by omega)))
  by_cases hwy : wy = 0
  · subst hwy
    by_cases hts : TT = S
    · have HV := HY ⟨hoo, rfl, hts⟩
      subst hts
      simp only [hoo] at *
      go_wp2_with fail
      refine bodyPost_ret (v := .tuple #[.agg #[.int .u8 3, .int .i64 (a : Int), .int .u64 (b : Int), .int .i64 (c : Int), .bool sx, .int .u64 hi, .int .u64 lo, .int .i64 l, .int .u8 ak, .int .i64 ai, .int .i64 0, .int .i64 0], .int .i64 0]) ?_ rfl ⟨by rw [HV.out], ?_⟩
      any_goals (rw [results_cell_tmp rfl]; go_simp)
      all_goals (repeat' (first | with_reducible exact hG.hB | with_reducible apply below_drew | with_reducible refine bset ?_ (by omega)))
    · have HV := HN (fun c => hts c.2.2)
      have hq : (TT.toList == S.toList) = false := beq_eq_false_iff_ne.2 (fun c => hts (toList_inj c))
      simp only [hoo] at *
      go_wp2_with fail
      refine bodyPost_ret (v := .tuple #[.agg #[.int .u8 0, .int .i64 0, .int .u64 0, .int .i64 0, .bool false, .int .u64 0, .int .u64 0, .int .i64 0, .int .u8 0, .int .i64 0, .int .i64 0, .int .i64 0], .int .i64 7]) ?_ rfl ⟨by rw [HV.out], ?_⟩
      any_goals (rw [results_cell_tmp rfl]; go_simp)
      all_goals (repeat' (first | with_reducible exact hG.hB | with_reducible apply below_drew | with_reducible refine bset ?_ (by omega)))
  · have HV := HN (fun c => hwy c.2.1)
    have hq1 : (wy == 0) = false := beq_eq_false_iff_ne.2 hwy
    have hq2 : (wy != 0) = true := bne_iff_ne.2 hwy
    simp only [hoo] at *
    go_wp2_with fail
    refine bodyPost_ret (v := .tuple #[.agg #[.int .u8 0, .int .i64 0, .int .u64 0, .int .i64 0, .bool false, .int .u64 0, .int .u64 0, .int .i64 0, .int .u8 0, .int .i64 0, .int .i64 0, .int .i64 0], .int .i64 7]) ?_ rfl ⟨by rw [HV.out], ?_⟩
    any_goals (rw [results_cell_tmp rfl]; go_simp)
    all_goals (repeat' (first | with_reducible exact hG.hB | with_reducible apply below_drew | with_reducible refine bset ?_ (by omega)))
end Go.Proofs.YtopabkkapbaibaaGreat.Msg
