/- What gram.firstMessage and gram.first return. -/
import Derived.Test.YtopabkkapbaibaaGramM
import Derived.Test.YtopabkkapbaibaaShelf
import Derived.BigQuiet
set_option linter.unusedVariables false
namespace Go.Proofs.Ytopabkkapbaibaa.Gram
open Go.RowKit
open Go.Proofs.Ytopabkkapbaibaa.Msg (results_cell_tmp1 drop_suf take_pre bytes_cat)
open Go.Proofs.Ytopabkkapbaibaa.Addr (RowAt below2 below_drew below_new bset RowAt.lt RowAt.cell RowAt.frozen RowAt.below RowAt.drew RowAt.new RowAt.alloc cells2 cells4)

theorem ofInt_u64 (n : Nat) (h : n < 18446744073709551616) : (BitVec.ofInt 64 (n : Int)).toNat = n := by
  rw [BitVec.toNat_ofInt]
  omega
theorem shl_or (a b : Nat) (ha : a < 256) (hb : b < 256) : bits .or .i64 (a * 256 : Int) (b : Int) = ((a * 256 + b : Nat) : Int) := by
  have e1 : (a : Int) * 256 = ((a * 256 : Nat) : Int) := by omega
  have hx : a * 256 ||| b = a * 256 + b := by
    have := Nat.shiftLeft_add_eq_or_of_lt (b := b) (i := 8) (by omega) a
    rw [Nat.shiftLeft_eq] at this
    rw [← this]
  rw [e1]
  show IntKind.i64.wrap ((BitVec.ofInt 64 ((a * 256 : Nat) : Int) ||| BitVec.ofInt 64 (b : Int)).toNat : Int) = _
  rw [BitVec.toNat_or, ofInt_u64 _ (by omega), ofInt_u64 b (by omega), hx]
  simp [IntKind.wrap, IntKind.bits, IntKind.signed]
  omega
set_option maxHeartbeats 2000000 in
theorem fm_short (S : ByteArray) (w : World) (h : (S.size : Int) < 3) :
    Calls Try.prog 53 #[.string S] w fun e w' => e = .returned (.tuple #[.agg #[.int .u8 0, .string ⟨#[]⟩], .string ⟨#[]⟩]) ∧ Below w.heap.size w w' := by
  have q1 : decide ((S.size : Int) < 3) = true := decide_eq_true h
  have q2 : decide (S.size < 3) = true := decide_eq_true (by omega)
  obtain ⟨X, hX⟩ : ∃ X, X = w.alloc (.cells #[.int .u8 0, .string ⟨#[]⟩] 70) := ⟨_, rfl⟩
  have hB : Below w.heap.size w X := by rw [hX]; exact below_new (Below.refl _ _) _
  have rx : RowAt X w.heap.size [.int .u8 0, .string ⟨#[]⟩] 70 := by rw [hX]; exact RowAt.new _ _ _
  have hlx := RowAt.lt rx
  obtain ⟨x0, x1, xf⟩ := cells2 rx
  go_enter Try.func53, Try.ntmps53
  go_upto_region 1 with fail
  rw [← hX]
  clear hX
  go_wp2_with fail
  refine bodyPost_ret (v := .tuple #[.agg #[.int .u8 0, .string ⟨#[]⟩], .string ⟨#[]⟩]) ?_ rfl ⟨rfl, ?_⟩
  any_goals (rw [results_cell_tmp1 rfl]; go_simp)
  all_goals (repeat' (first | with_reducible exact hB | with_reducible apply below_drew | with_reducible refine bset ?_ (by omega)))
set_option maxHeartbeats 8000000 in
set_option maxRecDepth 20000 in
theorem fm_walk (S T BD RS : ByteArray) (x y told th : Nat) (w : World) (h : 3 ≤ (S.size : Int)) (hS : (S.size : Int) ≤ 281474976710656)
    (h1 : ∀ h : 1 < S.size, (S[1]'h).toNat = x) (h2 : ∀ h : 2 < S.size, (S[2]'h).toNat = y) (hx : (x : Int) ≤ 255) (hy : (y : Int) ≤ 255) (hT : S.extract 3 S.size = T) (hTs : (T.size : Int) ≤ 281474976710656)
    (hor : bits .or .i64 (x * 256 : Int) (y : Int) = (told : Int)) (htl : (told : Int) ≤ 65535) (hth : (th : Int) ≤ (T.size : Int)) (hmin : min told T.size = th) (hmin2 : min (told : Int) (T.size : Int) = (th : Int)) (hle : (th : Int) ≤ (told : Int))
    (hBD : T.extract 0 th = BD) (hRS : T.extract th T.size = RS) (R : Value)
    (H1 : told = 0 ∨ 64 < told → Hid (R = .tuple #[.agg #[.int .u8 3, .string ⟨#[]⟩], .string RS])) (H2 : ¬ (told = 0 ∨ 64 < told) → th < told → Hid (R = .tuple #[.agg #[.int .u8 0, .string ⟨#[]⟩], .string RS])) (H3 : ¬ (told = 0 ∨ 64 < told) → ¬ th < told → Hid (R = .tuple #[.agg #[.int .u8 1, .string BD], .string RS])) :
    Calls Try.prog 53 #[.string S] w fun e w' => e = .returned R ∧ Below w.heap.size w w' := by
  have q1 : decide ((S.size : Int) < 3) = false := decide_eq_false (by omega)
  have q2 : decide (S.size < 3) = false := decide_eq_false (by omega)
  obtain ⟨X, hX⟩ : ∃ X, X = w.alloc (.cells #[.int .u8 0, .string ⟨#[]⟩] 70) := ⟨_, rfl⟩
  have hB : Below w.heap.size w X := by rw [hX]; exact below_new (Below.refl _ _) _
  have rx : RowAt X w.heap.size [.int .u8 0, .string ⟨#[]⟩] 70 := by rw [hX]; exact RowAt.new _ _ _
  go_enter Try.func53, Try.ntmps53
  go_upto_region 1 with fail
  rw [← hX]
  clear hX
  go_upto_region 3 with fail
  clear q1 q2
  have hi1 : 1 < S.size := by omega
  have hi2 : 2 < S.size := by omega
  go_cut [4, 5] (fun a b wc => a = .int .i64 (told : Int) ∧ b = .string T ∧ Below X.heap.size X wc)
  case first =>
    go_region
    all_goals go_wp2_with fail
    all_goals go_meet
    all_goals exact ⟨by first | rfl | (rw [← hor]), rfl, below_drew (Below.refl _ _)⟩
  case rest =>
  obtain ⟨rfl, rfl, hbc⟩ := hcut
  replace rx := RowAt.below rx hbc
  replace hB := below2 hB hbc
  clear hbc h1 h2 hx hy hor hT hi1 hi2 h hS
  go_upto_region 5 with fail
  go_cut [7, 8] (fun a b wc => a = .string BD ∧ b = .string RS ∧ Below w.heap.size w wc ∧ RowAt wc w.heap.size [.int .u8 0, .string ⟨#[]⟩] 70)
  case first =>
    go_region
    all_goals go_wp2_with fail
    all_goals go_meet
    all_goals exact ⟨rfl, rfl, below_drew hB, rx.drew⟩
  case rest =>
  clear rx hB
  obtain ⟨rfl, rfl, hB, rx⟩ := hcut
  clear hBD hRS hmin hmin2
  have hlx := RowAt.lt rx
  obtain ⟨x0, x1, xf⟩ := cells2 rx
  by_cases a1 : told = 0
  · have HV := H1 (.inl a1)
    subst a1
    clear H1 H2 H3
    go_wp2_with fail
    refine bodyPost_ret (v := .tuple #[.agg #[.int .u8 3, .string ⟨#[]⟩], .string RS]) ?_ rfl ⟨by rw [HV.out], ?_⟩
    any_goals (rw [results_cell_tmp1 rfl]; go_simp)
    all_goals (repeat' (first | with_reducible exact hB | with_reducible apply below_drew | with_reducible refine bset ?_ (by omega)))
  have n1 : ((told : Int) == 0) = false := beq_eq_false_iff_ne.2 (by omega)
  have n2 : (told == 0) = false := beq_eq_false_iff_ne.2 a1
  by_cases a2 : 64 < told
  · have HV := H1 (.inr a2)
    have d1 : decide ((64 : Int) < (told : Int)) = true := decide_eq_true (by omega)
    have d2 : decide (64 < told) = true := decide_eq_true a2
    clear H1 H2 H3 a1
    go_wp2_with fail
    refine bodyPost_ret (v := .tuple #[.agg #[.int .u8 3, .string ⟨#[]⟩], .string RS]) ?_ rfl ⟨by rw [HV.out], ?_⟩
    any_goals (rw [results_cell_tmp1 rfl]; go_simp)
    all_goals (repeat' (first | with_reducible exact hB | with_reducible apply below_drew | with_reducible refine bset ?_ (by omega)))
  have d1 : decide ((64 : Int) < (told : Int)) = false := decide_eq_false (by omega)
  have d2 : decide (64 < told) = false := decide_eq_false a2
  by_cases a3 : th < told
  · have HV := H2 (fun c => c.elim a1 a2) a3
    have d3 : decide ((th : Int) < (told : Int)) = true := decide_eq_true (by omega)
    have d4 : decide (th < told) = true := decide_eq_true a3
    clear H1 H2 H3 a1
    go_wp2_with fail
    refine bodyPost_ret (v := .tuple #[.agg #[.int .u8 0, .string ⟨#[]⟩], .string RS]) ?_ rfl ⟨by rw [HV.out], ?_⟩
    any_goals (rw [results_cell_tmp1 rfl]; go_simp)
    all_goals (repeat' (first | with_reducible exact hB | with_reducible apply below_drew | with_reducible refine bset ?_ (by omega)))
  · have HV := H3 (fun c => c.elim a1 a2) a3
    have d3 : decide ((th : Int) < (told : Int)) = false := decide_eq_false (by omega)
    have d4 : decide (th < told) = false := decide_eq_false a3
    clear H1 H2 H3 a1
    go_wp2_with fail
    refine bodyPost_ret (v := .tuple #[.agg #[.int .u8 1, .string BD], .string RS]) ?_ rfl ⟨by rw [HV.out], ?_⟩
    any_goals (rw [results_cell_tmp1 rfl]; go_simp)
    all_goals (repeat' (first | with_reducible exact hB | with_reducible apply below_drew | with_reducible refine bset ?_ (by omega)))
theorem size_list (l : List UInt8) : (⟨l.toArray⟩ : ByteArray).size = l.length := by simp [ByteArray.size]
def pcV (p : PcT) : Value := .agg #[.int .u8 (p.1 : Int), .string ⟨p.2.toArray⟩]
theorem firstMessage_any (s : List UInt8) (w : World) (hs : s.length ≤ 281474976710656) :
    Calls Try.prog 53 #[.string ⟨s.toArray⟩] w fun e w' => e = .returned (.tuple #[pcV (msgG s).1, .string ⟨(msgG s).2.toArray⟩]) ∧ Below w.heap.size w w' := by
  have short : s.length < 3 → Calls Try.prog 53 #[.string ⟨s.toArray⟩] w fun e w' => e = .returned (.tuple #[pcV ((0, []) : PcT), .string ⟨#[]⟩]) ∧ Below w.heap.size w w' := fun h => fm_short _ w (by rw [size_list]; omega)
  match s, hs, short with
  | [], hs, short => exact short (by simp)
  | [a], hs, short => exact short (by simp)
  | [a, b], hs, short => exact short (by simp)
  | a :: b :: c :: t, hs, short =>
    have hbt := b.toNat_lt
    have hct := c.toNat_lt
    have hsz : (⟨(a :: b :: c :: t).toArray⟩ : ByteArray).size = t.length + 3 := by rw [size_list]; rfl
    have hT : (⟨(a :: b :: c :: t).toArray⟩ : ByteArray).extract 3 (⟨(a :: b :: c :: t).toArray⟩ : ByteArray).size = ⟨t.toArray⟩ := by
      have := drop_suf (a :: b :: c :: t) 3 (by simp)
      rw [hsz]
      exact this
    have hts : (⟨t.toArray⟩ : ByteArray).size = t.length := size_list t
    have htl : t.length ≤ 281474976710656 := by simp at hs; omega
    have hor := shl_or b.toNat c.toNat hbt hct
    generalize htold : b.toNat * 256 + c.toNat = told at hor
    have hBD := take_pre t (min told t.length) (Nat.min_le_right _ _)
    have hRS : (⟨t.toArray⟩ : ByteArray).extract (min told t.length) (⟨t.toArray⟩ : ByteArray).size = ⟨(t.drop (min told t.length)).toArray⟩ := by
      rw [hts]
      exact drop_suf t (min told t.length) (Nat.min_le_right _ _)
    refine fm_walk _ _ _ _ b.toNat c.toNat told (min told t.length) w (by rw [hsz]; omega) (by rw [hsz]; simp at hs; omega) (fun _ => rfl) (fun _ => rfl) (by omega) (by omega) hT (by rw [hts]; omega) hor (by omega) (by rw [hts]; omega) (by rw [hts]) (by rw [hts]; omega) (by omega) hBD hRS _ ?_ ?_ ?_
    · intro h
      show _ = _
      unfold msgG
      simp only [htold]
      rw [if_pos h]
      have : t.drop (min told t.length) = t.drop told := by
        by_cases hle : told ≤ t.length
        · rw [Nat.min_eq_left hle]
        · rw [Nat.min_eq_right (by omega), List.drop_of_length_le (Nat.le_refl _), List.drop_of_length_le (by omega)]
      rw [this]
      rfl
    · intro h h2
      show _ = _
      unfold msgG
      simp only [htold]
      rw [if_neg h, if_pos (by omega), Nat.min_eq_right (by omega), List.drop_of_length_le (Nat.le_refl _)]
      rfl
    · intro h h2
      show _ = _
      unfold msgG
      simp only [htold]
      rw [if_neg h, if_neg (by omega), Nat.min_eq_left (by omega)]
      rfl
set_option maxHeartbeats 4000000 in
set_option maxRecDepth 20000 in
theorem first_bad (S RS : ByteArray) (b : UInt8) (k : Int) (w : World) (h : 1 ≤ (S.size : Int)) (hS : (S.size : Int) ≤ 281474976710656) (h0 : ∀ h : 0 < S.size, S[0]'h = b) (hb : ¬ b.toNat = 245)
    (cI : ∀ W : World, Calls Try.prog 54 #[.string S, .int .u8 245] W fun e w' => e = .returned (.int .i64 k) ∧ w' = W)
    (H : (k = -1 ∧ RS = ⟨#[]⟩) ∨ ∃ m : Nat, k = (m : Int) ∧ 0 < m ∧ m < S.size ∧ S.extract m S.size = RS) :
    Calls Try.prog 40 #[.string S] w fun e w' => e = .returned (.tuple #[.agg #[.int .u8 2, .string ⟨#[]⟩], .string RS]) ∧ Below w.heap.size w w' := by
  have q1 : ((b.toNat : Int) == 245) = false := beq_eq_false_iff_ne.2 (by omega)
  have q2 : (b.toNat == 245) = false := beq_eq_false_iff_ne.2 hb
  obtain ⟨X, hX⟩ : ∃ X, X = w.alloc (.cells #[.int .u8 0, .string ⟨#[]⟩] 70) := ⟨_, rfl⟩
  have hB : Below w.heap.size w X := by rw [hX]; exact below_new (Below.refl _ _) _
  have rx : RowAt X w.heap.size [.int .u8 0, .string ⟨#[]⟩] 70 := by rw [hX]; exact RowAt.new _ _ _
  go_enter Try.func40, Try.ntmps40
  go_upto_region 1 with fail
  rw [← hX]
  clear hX
  have hl2 := RowAt.lt rx
  obtain ⟨g2, hg2⟩ : ∃ g, g = w.heap.size := ⟨_, rfl⟩
  have hgw : w.heap.size ≤ g2 := by omega
  rw [← hg2] at rx hl2 ⊢
  clear hg2
  go_upto_region 3 with fail
  go_upto_region 4 with fail
  obtain ⟨Y, hY⟩ : ∃ Y, Y = X.alloc (.cells #[.int .u8 2, .string ⟨#[]⟩] 70) := ⟨_, rfl⟩
  have hbY : Below X.heap.size X Y := by rw [hY]; exact below_new (Below.refl _ _) _
  have ry : RowAt Y X.heap.size [.int .u8 2, .string ⟨#[]⟩] 70 := by rw [hY]; exact RowAt.new _ _ _
  rw [← hY]
  replace rx := RowAt.below rx hbY
  replace hB := below2 hB hbY
  obtain ⟨g4, hg4⟩ : ∃ g, g = X.heap.size := ⟨_, rfl⟩
  rw [← hg4] at ry hl2 ⊢
  clear hg4 hY hbY h0 q1 q2
  have hl4 := RowAt.lt rx
  obtain ⟨x0, x1, xf⟩ := cells2 rx
  obtain ⟨z0, z1, zf⟩ := cells2 ry
  go_wp2_with fail
  go_at_call 54; refine (cI _).mono ?_; rintro e w1 ⟨rfl, rfl⟩
  rcases H with ⟨rfl, rfl⟩ | ⟨m, rfl, hm0, hmS, hx⟩
  · go_wp2_with fail
    refine bodyPost_ret (v := .tuple #[.agg #[.int .u8 2, .string ⟨#[]⟩], .string ⟨#[]⟩]) ?_ rfl ⟨rfl, ?_⟩
    any_goals (rw [results_cell_tmp1 rfl]; go_simp)
    all_goals (repeat' (first | with_reducible exact hB | with_reducible apply below_drew | with_reducible refine bset ?_ (by omega)))
  · have d1 : decide ((0 : Int) < (m : Int)) = true := decide_eq_true (by omega)
    have d2 : decide (0 < m) = true := decide_eq_true hm0
    have hmi : (m : Int) ≤ (S.size : Int) := by omega
    go_upto_region 6 with fail
    go_region
    all_goals go_wp2_with fail
    all_goals (refine bodyPost_ret (v := .tuple #[.agg #[.int .u8 2, .string ⟨#[]⟩], .string RS]) ?_ rfl ⟨rfl, ?_⟩)
    any_goals (rw [results_cell_tmp1 rfl]; go_simp)
    all_goals (repeat' (first | with_reducible exact hB | with_reducible apply below_drew | with_reducible refine bset ?_ (by omega)))
set_option maxHeartbeats 4000000 in
theorem first_msg (S RS BD : ByteArray) (p : Int) (w : World) (h : 1 ≤ (S.size : Int)) (h0 : ∀ h : 0 < S.size, S[0]'h = 245)
    (cM : ∀ W : World, Calls Try.prog 53 #[.string S] W fun e w' => e = .returned (.tuple #[.agg #[.int .u8 p, .string BD], .string RS]) ∧ Below W.heap.size W w') :
    Calls Try.prog 40 #[.string S] w fun e w' => e = .returned (.tuple #[.agg #[.int .u8 p, .string BD], .string RS]) ∧ Below w.heap.size w w' := by
  obtain ⟨X, hX⟩ : ∃ X, X = w.alloc (.cells #[.int .u8 0, .string ⟨#[]⟩] 70) := ⟨_, rfl⟩
  have hB : Below w.heap.size w X := by rw [hX]; exact below_new (Below.refl _ _) _
  have rx : RowAt X w.heap.size [.int .u8 0, .string ⟨#[]⟩] 70 := by rw [hX]; exact RowAt.new _ _ _
  go_enter Try.func40, Try.ntmps40
  go_upto_region 1 with fail
  rw [← hX]
  clear hX
  go_wp2_with fail
  go_at_call 53; refine (cM _).mono ?_; rintro e w1 ⟨rfl, hb⟩
  replace rx := RowAt.below rx hb
  replace hB := below2 hB hb
  clear hb
  have hl2 := RowAt.lt rx
  obtain ⟨x0, x1, xf⟩ := cells2 rx
  go_wp2_with fail
  refine bodyPost_ret (v := .tuple #[.agg #[.int .u8 p, .string BD], .string RS]) ?_ rfl ⟨rfl, ?_⟩
  any_goals (rw [results_cell_tmp1 rfl]; go_simp)
  all_goals (repeat' (first | with_reducible exact hB | with_reducible apply below_drew | with_reducible refine bset ?_ (by omega)))
theorem first_any (s : List UInt8) (w : World) (hs : s.length ≤ 281474976710656) (hn : s ≠ []) :
    Calls Try.prog 40 #[.string ⟨s.toArray⟩] w fun e w' => e = .returned (.tuple #[pcV (firstG s).1, .string ⟨(firstG s).2.toArray⟩]) ∧ Below w.heap.size w w' := by
  cases s with
  | nil => exact absurd rfl hn
  | cons b t =>
    have hsz : (⟨(b :: t).toArray⟩ : ByteArray).size = t.length + 1 := by rw [size_list]; rfl
    by_cases hb : b = 245
    · have e1 : firstG (b :: t) = msgG (b :: t) := by show (if b = 245 then msgG (b :: t) else ((2, []), noM t)) = _; rw [if_pos hb]
      rw [e1]
      exact first_msg _ _ _ _ w (by rw [hsz]; omega) (fun _ => hb) (fun W => firstMessage_any (b :: t) W hs)
    · have e1 : firstG (b :: t) = ((2, []), noM t) := by show (if b = 245 then msgG (b :: t) else ((2, []), noM t)) = _; rw [if_neg hb]
      rw [e1]
      have hbn : ¬ b.toNat = 245 := fun e => hb (UInt8.toNat_inj.1 e)
      refine first_bad _ _ b (Lib.indexByte (b :: t) 245) w (by rw [hsz]; omega) (by rw [hsz]; simp at hs; omega) (fun _ => rfl) hbn (fun W => Try.strings_IndexByte ⟨(b :: t).toArray⟩ 245 W) ?_
      have e2 : noM (b :: t) = noM t := by unfold noM; rw [List.dropWhile_cons_of_pos (by simpa using hb)]
      rcases index_none (b :: t) with ⟨h1, h2⟩ | ⟨k, h0, h1, h2⟩
      · refine .inl ⟨h1, ?_⟩
        rw [← e2, h2]
      · refine .inr ⟨k, h1, ?_, by rw [hsz]; simpa using h0, ?_⟩
        · rcases Nat.eq_zero_or_pos k with hk | hk
          · exfalso
            subst hk
            simp [Lib.indexByte, hb] at h1
            split at h1 <;> omega
          · exact hk
        · rw [hsz, ← e2, h2]
          exact drop_suf (b :: t) k (by omega)
end Go.Proofs.Ytopabkkapbaibaa.Gram
