/- The fixed answers of layer 13. -/
import Derived.Test.YtopabkkapbaibaaMsgGet
import Derived.Lib.Bytealg
import Derived.Test.YtopabkkapbaibaaShelf
import Derived.BigQuiet
import Derived.RangeFuncNested
import Derived.RangeFuncBound
import Derived.RangeFuncCalls
import Derived.RangeFuncLeaves
import Derived.RangeFuncBox
import Derived.Shelf.Abstract
import Derived.Shelf.RegionOpen
import Derived.OwnWalkIn
import Derived.TacticsInMore
import Derived.LoopNIn
import Derived.LoopIn
import Derived.Maps.AppendAt
import Derived.OwnWalk
import Derived.Laws.AppendOwn
import Derived.Sort.CutIn
import Derived.Deep.Cut
import Derived.Test.YtopabkkapbaibaaMsgPut3
import Derived.Test.YtopabkkapbaibaaWalkBuilder
import Derived.Test.YtopabkkapbaibaaOrdEv
import Derived.Test.YtopabkkapbaibaaMsgChk2
import Derived.Test.YtopabkkapbaibaaMsgBackM
set_option linter.unusedVariables false
namespace Go.Proofs.Ytopabkkapbaibaa.Gram
abbrev PcT : Type := Nat × List UInt8
/-- the piece of what begins with Magic, and what is behind it -/
def msgG (s : List UInt8) : PcT × List UInt8 :=
  match s with
  | _ :: b :: c :: t =>
    if b.toNat * 256 + c.toNat = 0 ∨ 64 < b.toNat * 256 + c.toNat then ((3, []), t.drop (b.toNat * 256 + c.toNat))
    else if t.length < b.toNat * 256 + c.toNat then ((0, []), [])
    else ((1, t.take (b.toNat * 256 + c.toNat)), t.drop (b.toNat * 256 + c.toNat))
  | _ => ((0, []), [])
def noM (s : List UInt8) : List UInt8 := s.dropWhile (fun b => decide (b ≠ 245))
def firstG (s : List UInt8) : PcT × List UInt8 :=
  match s with
  | [] => ((0, []), [])
  | b :: t => if b = 245 then msgG (b :: t) else ((2, []), noM t)
theorem noM_len (s : List UInt8) : (noM s).length ≤ s.length := by
  unfold noM
  exact (List.dropWhile_sublist _).length_le
theorem msgG_len (s : List UInt8) (h : s ≠ []) : (msgG s).2.length < s.length := by
  unfold msgG
  split
  · split
    · simp only [List.length_drop, List.length_cons]; omega
    · split
      · simp
      · simp only [List.length_drop, List.length_cons]; omega
  · simp only [List.length_nil]
    exact List.length_pos_iff.2 h
theorem firstG_len (s : List UInt8) (h : s ≠ []) : (firstG s).2.length < s.length := by
  unfold firstG
  split
  · exact absurd rfl h
  · split
    · exact msgG_len _ h
    · have := noM_len (by assumption : List UInt8)
      simp only [List.length_cons]
      rename_i t _
      have := noM_len t
      omega
theorem firstG_body (s : List UInt8) : (firstG s).1.2.length ≤ 64 := by
  unfold firstG
  split
  · simp
  · split
    · unfold msgG
      split
      · split
        · simp
        · split
          · simp
          · simp only [List.length_take]; omega
      · simp
    · simp
/-- all pieces, with fuel -/
def piecesF : Nat → List UInt8 → List PcT
  | 0, _ => []
  | f + 1, s => if s = [] then [] else (if (firstG s).1.1 = 0 then [] else [(firstG s).1]) ++ piecesF f (firstG s).2
def piecesL (s : List UInt8) : List PcT := piecesF s.length s
theorem piecesF_more (f : Nat) : ∀ (s : List UInt8), s.length ≤ f → ∀ g, s.length ≤ g → piecesF f s = piecesF g s := by
  induction f with
  | zero =>
    intro s h g hg
    have : s = [] := List.eq_nil_of_length_eq_zero (by omega)
    subst this
    cases g <;> rfl
  | succ f ih =>
    intro s h g hg
    cases g with
    | zero =>
      have : s = [] := List.eq_nil_of_length_eq_zero (by omega)
      subst this
      rfl
    | succ g =>
      unfold piecesF
      by_cases hs : s = []
      · rw [if_pos hs, if_pos hs]
      · have := firstG_len s hs
        rw [if_neg hs, if_neg hs, ih (firstG s).2 (by omega) g (by omega)]
theorem pieces_nil : piecesL [] = [] := rfl
theorem pieces_step (s : List UInt8) (h : s ≠ []) : piecesL s = (if (firstG s).1.1 = 0 then [] else [(firstG s).1]) ++ piecesL (firstG s).2 := by
  have hl := firstG_len s h
  unfold piecesL
  obtain ⟨n, hn⟩ : ∃ n, s.length = n + 1 := ⟨s.length - 1, by omega⟩
  rw [hn]
  show piecesF (n + 1) s = _
  rw [piecesF, if_neg h, piecesF_more n _ (by omega) (firstG s).2.length (Nat.le_refl _)]
theorem index_none (t : List UInt8) : Lib.indexByte t 245 = -1 ∧ noM t = [] ∨ ∃ k : Nat, k < t.length ∧ Lib.indexByte t 245 = (k : Int) ∧ noM t = t.drop k := by
  induction t with
  | nil => exact .inl ⟨rfl, rfl⟩
  | cons b t ih =>
    by_cases hb : b = 245
    · refine .inr ⟨0, by simp, ?_, ?_⟩
      · rw [hb]; simp [Lib.indexByte]
      · rw [hb]; unfold noM; simp
    · have e2 : noM (b :: t) = noM t := by unfold noM; rw [List.dropWhile_cons_of_pos (by simpa using hb)]
      rcases ih with ⟨h1, h2⟩ | ⟨k, h0, h1, h2⟩
      · refine .inl ⟨?_, by rw [e2, h2]⟩
        simp [Lib.indexByte, hb, h1]
      · refine .inr ⟨k + 1, by simp; omega, ?_, by rw [e2, h2]; rfl⟩
        simp [Lib.indexByte, hb, h1]
end Go.Proofs.Ytopabkkapbaibaa.Gram
namespace Go.Proofs.Ytopabkkapbaibaa.Gram
open Go.RowKit
open Go.Proofs.Ytopabkkapbaibaa.Msg (results_cell_tmp1 drop_suf take_pre bytes_cat)
open Go.Proofs.Ytopabkkapbaibaa.Addr (RowAt below2 below_drew below_new bset RowAt.lt RowAt.cell RowAt.frozen RowAt.below RowAt.drew RowAt.new RowAt.alloc cells2 cells4)

theorem ofInt_u64 (n : Nat) (h : n < 18446744073709551616) : (BitVec.ofInt 64 (n : Int)).toNat = n := by
  rw [BitVec.toNat_ofInt]
  omega
theorem shl_or (a b : Nat) (ha : a < 256) (hb : b < 256) : bits .or .i64 (a * 256 : Int) (b : Int) = ((a * 256 + b : Nat) : Int) := by
  have e1 : (a : Int) * 256 = ((a * 256 : Nat) : Int) := by omega
  have hx : a * 256 ||| b = a * 256 + b := by
    have := Nat.shiftLeft_add_eq_or_of_lt (b := b) (i := 8) (by omega) a
    rw [Nat.shiftLeft_eq] at this
    rw [← this]
  rw [e1]
  show IntKind.i64.wrap ((BitVec.ofInt 64 ((a * 256 : Nat) : Int) ||| BitVec.ofInt 64 (b : Int)).toNat : Int) = _
  rw [BitVec.toNat_or, ofInt_u64 _ (by omega), ofInt_u64 b (by omega), hx]
  simp [IntKind.wrap, IntKind.bits, IntKind.signed]
  omega
set_option maxHeartbeats 2000000 in
theorem fm_short (S : ByteArray) (w : World) (h : (S.size : Int) < 3) :
    Calls Try.prog 53 #[.string S] w fun e w' => e = .returned (.tuple #[.agg #[.int .u8 0, .string ⟨#[]⟩], .string ⟨#[]⟩]) ∧ Below w.heap.size w w' := by
  have q1 : decide ((S.size : Int) < 3) = true := decide_eq_true h
  have q2 : decide (S.size < 3) = true := decide_eq_true (by omega)
  obtain ⟨X, hX⟩ : ∃ X, X = w.alloc (.cells #[.int .u8 0, .string ⟨#[]⟩] 70) := ⟨_, rfl⟩
  have hB : Below w.heap.size w X := by rw [hX]; exact below_new (Below.refl _ _) _
  have rx : RowAt X w.heap.size [.int .u8 0, .string ⟨#[]⟩] 70 := by rw [hX]; exact RowAt.new _ _ _
  have hlx := RowAt.lt rx
  obtain ⟨x0, x1, xf⟩ := cells2 rx
  go_enter Try.func53, Try.ntmps53
  go_upto_region 1 with fail
  rw [← hX]
  clear hX
  go_wp2_with fail
  refine bodyPost_ret (v := .tuple #[.agg #[.int .u8 0, .string ⟨#[]⟩], .string ⟨#[]⟩]) ?_ rfl ⟨rfl, ?_⟩
  any_goals (rw [results_cell_tmp1 rfl]; go_simp)
  all_goals (repeat' (first | with_reducible exact hB | with_reducible apply below_drew | with_reducible refine bset ?_ (by omega)))
set_option maxHeartbeats 8000000 in
set_option maxRecDepth 20000 in
theorem fm_walk (S T BD RS : ByteArray) (x y told th : Nat) (w : World) (h : 3 ≤ (S.size : Int)) (hS : (S.size : Int) ≤ 281474976710656)
    (h1 : ∀ h : 1 < S.size, (S[1]'h).toNat = x) (h2 : ∀ h : 2 < S.size, (S[2]'h).toNat = y) (hx : (x : Int) ≤ 255) (hy : (y : Int) ≤ 255) (hT : S.extract 3 S.size = T) (hTs : (T.size : Int) ≤ 281474976710656)
    (hor : bits .or .i64 (x * 256 : Int) (y : Int) = (told : Int)) (htl : (told : Int) ≤ 65535) (hth : (th : Int) ≤ (T.size : Int)) (hmin : min told T.size = th) (hmin2 : min (told : Int) (T.size : Int) = (th : Int)) (hle : (th : Int) ≤ (told : Int))
    (hBD : T.extract 0 th = BD) (hRS : T.extract th T.size = RS) (R : Value)
    (H1 : told = 0 ∨ 64 < told → Hid (R = .tuple #[.agg #[.int .u8 3, .string ⟨#[]⟩], .string RS])) (H2 : ¬ (told = 0 ∨ 64 < told) → th < told → Hid (R = .tuple #[.agg #[.int .u8 0, .string ⟨#[]⟩], .string RS])) (H3 : ¬ (told = 0 ∨ 64 < told) → ¬ th < told → Hid (R = .tuple #[.agg #[.int .u8 1, .string BD], .string RS])) :
    Calls Try.prog 53 #[.string S] w fun e w' => e = .returned R ∧ Below w.heap.size w w' := by
  have q1 : decide ((S.size : Int) < 3) = false := decide_eq_false (by omega)
  have q2 : decide (S.size < 3) = false := decide_eq_false (by omega)
  obtain ⟨X, hX⟩ : ∃ X, X = w.alloc (.cells #[.int .u8 0, .string ⟨#[]⟩] 70) := ⟨_, rfl⟩
  have hB : Below w.heap.size w X := by rw [hX]; exact below_new (Below.refl _ _) _
  have rx : RowAt X w.heap.size [.int .u8 0, .string ⟨#[]⟩] 70 := by rw [hX]; exact RowAt.new _ _ _
  go_enter Try.func53, Try.ntmps53
  go_upto_region 1 with fail
  rw [← hX]
  clear hX
  go_upto_region 3 with fail
  clear q1 q2
  have hi1 : 1 < S.size := by omega
  have hi2 : 2 < S.size := by omega
  go_cut [4, 5] (fun a b wc => a = .int .i64 (told : Int) ∧ b = .string T ∧ Below X.heap.size X wc)
  case first =>
    go_region
    all_goals go_wp2_with fail
    all_goals go_meet
    all_goals exact ⟨by first | rfl | (rw [← hor]), rfl, below_drew (Below.refl _ _)⟩
  case rest =>
  obtain ⟨rfl, rfl, hbc⟩ := hcut
  replace rx := RowAt.below rx hbc
  replace hB := below2 hB hbc
  clear hbc h1 h2 hx hy hor hT hi1 hi2 h hS
  go_upto_region 5 with fail
  go_cut [7, 8] (fun a b wc => a = .string BD ∧ b = .string RS ∧ Below w.heap.size w wc ∧ RowAt wc w.heap.size [.int .u8 0, .string ⟨#[]⟩] 70)
  case first =>
    go_region
    all_goals go_wp2_with fail
    all_goals go_meet
    all_goals exact ⟨rfl, rfl, below_drew hB, rx.drew⟩
  case rest =>
  clear rx hB
  obtain ⟨rfl, rfl, hB, rx⟩ := hcut
  clear hBD hRS hmin hmin2
  have hlx := RowAt.lt rx
  obtain ⟨x0, x1, xf⟩ := cells2 rx
  by_cases a1 : told = 0
  · have HV := H1 (.inl a1)
    subst a1
    clear H1 H2 H3
    go_wp2_with fail
    refine bodyPost_ret (v := .tuple #[.agg #[.int .u8 3, .string ⟨#[]⟩], .string RS]) ?_ rfl ⟨by rw [HV.out], ?_⟩
    any_goals (rw [results_cell_tmp1 rfl]; go_simp)
    all_goals (repeat' (first | with_reducible exact hB | with_reducible apply below_drew | with_reducible refine bset ?_ (by omega)))
  have n1 : ((told : Int) == 0) = false := beq_eq_false_iff_ne.2 (by omega)
  have n2 : (told == 0) = false := beq_eq_false_iff_ne.2 a1
  by_cases a2 : 64 < told
  · have HV := H1 (.inr a2)
    have d1 : decide ((64 : Int) < (told : Int)) = true := decide_eq_true (by omega)
    have d2 : decide (64 < told) = true := decide_eq_true a2
    clear H1 H2 H3 a1
    go_wp2_with fail
    refine bodyPost_ret (v := .tuple #[.agg #[.int .u8 3, .string ⟨#[]⟩], .string RS]) ?_ rfl ⟨by rw [HV.out], ?_⟩
    any_goals (rw [results_cell_tmp1 rfl]; go_simp)
    all_goals (repeat' (first | with_reducible exact hB | with_reducible apply below_drew | with_reducible refine bset ?_ (by omega)))
  have d1 : decide ((64 : Int) < (told : Int)) = false := decide_eq_false (by omega)
  have d2 : decide (64 < told) = false := decide_eq_false a2
  by_cases a3 : th < told
  · have HV := H2 (fun c => c.elim a1 a2) a3
    have d3 : decide ((th : Int) < (told : Int)) = true := decide_eq_true (by omega)
    have d4 : decide (th < told) = true := decide_eq_true a3
    clear H1 H2 H3 a1
    go_wp2_with fail
    refine bodyPost_ret (v := .tuple #[.agg #[.int .u8 0, .string ⟨#[]⟩], .string RS]) ?_ rfl ⟨by rw [HV.out], ?_⟩
    any_goals (rw [results_cell_tmp1 rfl]; go_simp)
    all_goals (repeat' (first | with_reducible exact hB | with_reducible apply below_drew | with_reducible refine bset ?_ (by omega)))
  · have HV := H3 (fun c => c.elim a1 a2) a3
    have d3 : decide ((th : Int) < (told : Int)) = false := decide_eq_false (by omega)
    have d4 : decide (th < told) = false := decide_eq_false a3
    clear H1 H2 H3 a1
    go_wp2_with fail
    refine bodyPost_ret (v := .tuple #[.agg #[.int .u8 1, .string BD], .string RS]) ?_ rfl ⟨by rw [HV.out], ?_⟩
    any_goals (rw [results_cell_tmp1 rfl]; go_simp)
    all_goals (repeat' (first | with_reducible exact hB | with_reducible apply below_drew | with_reducible refine bset ?_ (by omega)))
theorem size_list (l : List UInt8) : (⟨l.toArray⟩ : ByteArray).size = l.length := by simp [ByteArray.size]
def pcV (p : PcT) : Value := .agg #[.int .u8 (p.1 : Int), .string ⟨p.2.toArray⟩]
theorem firstMessage_any (s : List UInt8) (w : World) (hs : s.length ≤ 281474976710656) :
    Calls Try.prog 53 #[.string ⟨s.toArray⟩] w fun e w' => e = .returned (.tuple #[pcV (msgG s).1, .string ⟨(msgG s).2.toArray⟩]) ∧ Below w.heap.size w w' := by
  have short : s.length < 3 → Calls Try.prog 53 #[.string ⟨s.toArray⟩] w fun e w' => e = .returned (.tuple #[pcV ((0, []) : PcT), .string ⟨#[]⟩]) ∧ Below w.heap.size w w' := fun h => fm_short _ w (by rw [size_list]; omega)
  match s, hs, short with
  | [], hs, short => exact short (by simp)
  | [a], hs, short => exact short (by simp)
  | [a, b], hs, short => exact short (by simp)
  | a :: b :: c :: t, hs, short =>
    have hbt := b.toNat_lt
    have hct := c.toNat_lt
    have hsz : (⟨(a :: b :: c :: t).toArray⟩ : ByteArray).size = t.length + 3 := by rw [size_list]; rfl
    have hT : (⟨(a :: b :: c :: t).toArray⟩ : ByteArray).extract 3 (⟨(a :: b :: c :: t).toArray⟩ : ByteArray).size = ⟨t.toArray⟩ := by
      have := drop_suf (a :: b :: c :: t) 3 (by simp)
      rw [hsz]
      exact this
    have hts : (⟨t.toArray⟩ : ByteArray).size = t.length := size_list t
    have htl : t.length ≤ 281474976710656 := by simp at hs; omega
    have hor := shl_or b.toNat c.toNat hbt hct
    generalize htold : b.toNat * 256 + c.toNat = told at hor
    have hBD := take_pre t (min told t.length) (Nat.min_le_right _ _)
    have hRS : (⟨t.toArray⟩ : ByteArray).extract (min told t.length) (⟨t.toArray⟩ : ByteArray).size = ⟨(t.drop (min told t.length)).toArray⟩ := by
      rw [hts]
      exact drop_suf t (min told t.length) (Nat.min_le_right _ _)
    refine fm_walk _ _ _ _ b.toNat c.toNat told (min told t.length) w (by rw [hsz]; omega) (by rw [hsz]; simp at hs; omega) (fun _ => rfl) (fun _ => rfl) (by omega) (by omega) hT (by rw [hts]; omega) hor (by omega) (by rw [hts]; omega) (by rw [hts]) (by rw [hts]; omega) (by omega) hBD hRS _ ?_ ?_ ?_
    · intro h
      show _ = _
      unfold msgG
      simp only [htold]
      rw [if_pos h]
      have : t.drop (min told t.length) = t.drop told := by
        by_cases hle : told ≤ t.length
        · rw [Nat.min_eq_left hle]
        · rw [Nat.min_eq_right (by omega), List.drop_of_length_le (Nat.le_refl _), List.drop_of_length_le (by omega)]
      rw [this]
      rfl
    · intro h h2
      show _ = _
      unfold msgG
      simp only [htold]
      rw [if_neg h, if_pos (by omega), Nat.min_eq_right (by omega), List.drop_of_length_le (Nat.le_refl _)]
      rfl
    · intro h h2
      show _ = _
      unfold msgG
      simp only [htold]
      rw [if_neg h, if_neg (by omega), Nat.min_eq_left (by omega)]
      rfl
set_option maxHeartbeats 4000000 in
set_option maxRecDepth 20000 in
theorem first_bad (S RS : ByteArray) (b : UInt8) (k : Int) (w : World) (h : 1 ≤ (S.size : Int)) (hS : (S.size : Int) ≤ 281474976710656) (h0 : ∀ h : 0 < S.size, S[0]'h = b) (hb : ¬ b.toNat = 245)
    (cI : ∀ W : World, Calls Try.prog 54 #[.string S, .int .u8 245] W fun e w' => e = .returned (.int .i64 k) ∧ w' = W)
    (H : (k = -1 ∧ RS = ⟨#[]⟩) ∨ ∃ m : Nat, k = (m : Int) ∧ 0 < m ∧ m < S.size ∧ S.extract m S.size = RS) :
    Calls Try.prog 40 #[.string S] w fun e w' => e = .returned (.tuple #[.agg #[.int .u8 2, .string ⟨#[]⟩], .string RS]) ∧ Below w.heap.size w w' := by
  have q1 : ((b.toNat : Int) == 245) = false := beq_eq_false_iff_ne.2 (by omega)
  have q2 : (b.toNat == 245) = false := beq_eq_false_iff_ne.2 hb
  obtain ⟨X, hX⟩ : ∃ X, X = w.alloc (.cells #[.int .u8 0, .string ⟨#[]⟩] 70) := ⟨_, rfl⟩
  have hB : Below w.heap.size w X := by rw [hX]; exact below_new (Below.refl _ _) _
  have rx : RowAt X w.heap.size [.int .u8 0, .string ⟨#[]⟩] 70 := by rw [hX]; exact RowAt.new _ _ _
  go_enter Try.func40, Try.ntmps40
  go_upto_region 1 with fail
  rw [← hX]
  clear hX
  have hl2 := RowAt.lt rx
  obtain ⟨g2, hg2⟩ : ∃ g, g = w.heap.size := ⟨_, rfl⟩
  have hgw : w.heap.size ≤ g2 := by omega
  rw [← hg2] at rx hl2 ⊢
  clear hg2
  go_upto_region 3 with fail
  go_upto_region 4 with fail
  obtain ⟨Y, hY⟩ : ∃ Y, Y = X.alloc (.cells #[.int .u8 2, .string ⟨#[]⟩] 70) := ⟨_, rfl⟩
  have hbY : Below X.heap.size X Y := by rw [hY]; exact below_new (Below.refl _ _) _
  have ry : RowAt Y X.heap.size [.int .u8 2, .string ⟨#[]⟩] 70 := by rw [hY]; exact RowAt.new _ _ _
  rw [← hY]
  replace rx := RowAt.below rx hbY
  replace hB := below2 hB hbY
  obtain ⟨g4, hg4⟩ : ∃ g, g = X.heap.size := ⟨_, rfl⟩
  rw [← hg4] at ry hl2 ⊢
  clear hg4 hY hbY h0 q1 q2
  have hl4 := RowAt.lt rx
  obtain ⟨x0, x1, xf⟩ := cells2 rx
  obtain ⟨z0, z1, zf⟩ := cells2 ry
  go_wp2_with fail
  go_at_call 54; refine (cI _).mono ?_; rintro e w1 ⟨rfl, rfl⟩
  rcases H with ⟨rfl, rfl⟩ | ⟨m, rfl, hm0, hmS, hx⟩
  · go_wp2_with fail
    refine bodyPost_ret (v := .tuple #[.agg #[.int .u8 2, .string ⟨#[]⟩], .string ⟨#[]⟩]) ?_ rfl ⟨rfl, ?_⟩
    any_goals (rw [results_cell_tmp1 rfl]; go_simp)
    all_goals (repeat' (first | with_reducible exact hB | with_reducible apply below_drew | with_reducible refine bset ?_ (by omega)))
  · have d1 : decide ((0 : Int) < (m : Int)) = true := decide_eq_true (by omega)
    have d2 : decide (0 < m) = true := decide_eq_true hm0
    have hmi : (m : Int) ≤ (S.size : Int) := by omega
    go_upto_region 6 with fail
    go_region
    all_goals go_wp2_with fail
    all_goals (refine bodyPost_ret (v := .tuple #[.agg #[.int .u8 2, .string ⟨#[]⟩], .string RS]) ?_ rfl ⟨rfl, ?_⟩)
    any_goals (rw [results_cell_tmp1 rfl]; go_simp)
    all_goals (repeat' (first | with_reducible exact hB | with_reducible apply below_drew | with_reducible refine bset ?_ (by omega)))
set_option maxHeartbeats 4000000 in
theorem first_msg (S RS BD : ByteArray) (p : Int) (w : World) (h : 1 ≤ (S.size : Int)) (h0 : ∀ h : 0 < S.size, S[0]'h = 245)
    (cM : ∀ W : World, Calls Try.prog 53 #[.string S] W fun e w' => e = .returned (.tuple #[.agg #[.int .u8 p, .string BD], .string RS]) ∧ Below W.heap.size W w') :
    Calls Try.prog 40 #[.string S] w fun e w' => e = .returned (.tuple #[.agg #[.int .u8 p, .string BD], .string RS]) ∧ Below w.heap.size w w' := by
  obtain ⟨X, hX⟩ : ∃ X, X = w.alloc (.cells #[.int .u8 0, .string ⟨#[]⟩] 70) := ⟨_, rfl⟩
  have hB : Below w.heap.size w X := by rw [hX]; exact below_new (Below.refl _ _) _
  have rx : RowAt X w.heap.size [.int .u8 0, .string ⟨#[]⟩] 70 := by rw [hX]; exact RowAt.new _ _ _
  go_enter Try.func40, Try.ntmps40
  go_upto_region 1 with fail
  rw [← hX]
  clear hX
  go_wp2_with fail
  go_at_call 53; refine (cM _).mono ?_; rintro e w1 ⟨rfl, hb⟩
  replace rx := RowAt.below rx hb
  replace hB := below2 hB hb
  clear hb
  have hl2 := RowAt.lt rx
  obtain ⟨x0, x1, xf⟩ := cells2 rx
  go_wp2_with fail
  refine bodyPost_ret (v := .tuple #[.agg #[.int .u8 p, .string BD], .string RS]) ?_ rfl ⟨rfl, ?_⟩
  any_goals (rw [results_cell_tmp1 rfl]; go_simp)
  all_goals (repeat' (first | with_reducible exact hB | with_reducible apply below_drew | with_reducible refine bset ?_ (by omega)))
theorem first_any (s : List UInt8) (w : World) (hs : s.length ≤ 281474976710656) (hn : s ≠ []) :
    Calls Try.prog 40 #[.string ⟨s.toArray⟩] w fun e w' => e = .returned (.tuple #[pcV (firstG s).1, .string ⟨(firstG s).2.toArray⟩]) ∧ Below w.heap.size w w' := by
  cases s with
  | nil => exact absurd rfl hn
  | cons b t =>
    have hsz : (⟨(b :: t).toArray⟩ : ByteArray).size = t.length + 1 := by rw [size_list]; rfl
    by_cases hb : b = 245
    · have e1 : firstG (b :: t) = msgG (b :: t) := by show (if b = 245 then msgG (b :: t) else ((2, []), noM t)) = _; rw [if_pos hb]
      rw [e1]
      exact first_msg _ _ _ _ w (by rw [hsz]; omega) (fun _ => hb) (fun W => firstMessage_any (b :: t) W hs)
    · have e1 : firstG (b :: t) = ((2, []), noM t) := by show (if b = 245 then msgG (b :: t) else ((2, []), noM t)) = _; rw [if_neg hb]
      rw [e1]
      have hbn : ¬ b.toNat = 245 := fun e => hb (UInt8.toNat_inj.1 e)
      refine first_bad _ _ b (Lib.indexByte (b :: t) 245) w (by rw [hsz]; omega) (by rw [hsz]; simp at hs; omega) (fun _ => rfl) hbn (fun W => Try.strings_IndexByte ⟨(b :: t).toArray⟩ 245 W) ?_
      have e2 : noM (b :: t) = noM t := by unfold noM; rw [List.dropWhile_cons_of_pos (by simpa using hb)]
      rcases index_none (b :: t) with ⟨h1, h2⟩ | ⟨k, h0, h1, h2⟩
      · refine .inl ⟨h1, ?_⟩
        rw [← e2, h2]
      · refine .inr ⟨k, h1, ?_, by rw [hsz]; simpa using h0, ?_⟩
        · rcases Nat.eq_zero_or_pos k with hk | hk
          · exfalso
            subst hk
            simp [Lib.indexByte, hb] at h1
            split at h1 <;> omega
          · exact hk
        · rw [hsz, ← e2, h2]
          exact drop_suf (b :: t) k (by omega)
end Go.Proofs.Ytopabkkapbaibaa.Gram
namespace Go.Proofs.Ytopabkkapbaibaa.Gram
open Go.RowKit Go.Shelf
open Go.Proofs.Ytopabkkapbaibaa.Addr (RowAt below2 below_drew below_new bset RowAt.lt RowAt.cell RowAt.frozen RowAt.below RowAt.drew RowAt.new RowAt.alloc cells2 cells4)
attribute [local go_sem] Oper.semAt_some

abbrev Told : Type := { x : PcT // x.1 ≤ 255 ∧ x.2.length ≤ 64 }
def encs (x : Told) : Array Value := #[.agg #[.int .u8 (x.1.1 : Int), .string ⟨x.1.2.toArray⟩]]
/-- what has been told: what is left -/
def TG (s : List UInt8) (pre : List PcT) (cur : List UInt8) : Prop := cur.length ≤ s.length ∧ piecesL s = pre ++ piecesL cur
theorem TG.nil {s : List UInt8} : TG s [] s := ⟨Nat.le_refl _, rfl⟩
theorem TG.none {s : List UInt8} {pre : List PcT} {cur : List UInt8} (h : TG s pre cur) (hc : cur ≠ []) (hk : (firstG cur).1.1 = 0) : TG s pre (firstG cur).2 :=
  ⟨by have := firstG_len _ hc; have := h.1; omega, by rw [h.2, pieces_step _ hc, if_pos hk]; rfl⟩
theorem TG.one {s : List UInt8} {pre : List PcT} {cur : List UInt8} (h : TG s pre cur) (hc : cur ≠ []) (hk : (firstG cur).1.1 ≠ 0) : TG s (pre ++ [(firstG cur).1]) (firstG cur).2 :=
  ⟨by have := firstG_len _ hc; have := h.1; omega, by rw [h.2, pieces_step _ hc, if_neg hk, List.append_assoc]⟩
theorem TG.le {s : List UInt8} {pre : List PcT} {cur : List UInt8} (h : TG s pre cur) : cur.length ≤ s.length := h.1
theorem TG.all {s : List UInt8} {pre : List PcT} {cur : List UInt8} (h : TG s pre cur) : piecesL s = pre ++ piecesL cur := h.2
def strLen : Value → Nat
  | .string s => s.size
  | _ => 0
theorem grown_of {w w' : World} (h : Below w.heap.size w w') : w.grownBy w' none := ⟨h.os, h.tape, h.output, h.size, fun k hk _ => h.block k hk⟩
theorem kind_le (s : List UInt8) : (firstG s).1.1 ≤ 255 := by
  unfold firstG
  split
  · simp
  · split
    · unfold msgG
      split
      · split
        · simp
        · split <;> simp
      · simp
    · simp
def TAll (s : List UInt8) (xs : List Told) : Prop := xs.map (·.1) = piecesL s
set_option maxHeartbeats 4000000 in
set_option maxRecDepth 20000 in
theorem each1_stops (l : List UInt8) (hl : l.length ≤ 281474976710656) (n Bn : Nat) (w : World) (hBn : Bn < w.heap.size) (hc : w.cell? ⟨Bn, 0, none⟩ = some (.string ⟨l.toArray⟩)) :
    SeqStopsK Fence.wide n Try.prog 39 #[.pointer (some ⟨Bn, 0, none⟩)] encs (fun _ _ => True) (TAll l) (fun _ => True) (piecesL l).length w := by
  intro lp J Jx W hW hJ hJx hY h0
  have hcW : W.cell? ⟨Bn, 0, none⟩ = some (.string ⟨l.toArray⟩) := (hW.cell (p := ⟨Bn, 0, none⟩) hBn).trans hc
  have hWs := hW.size
  show CallsIn Fence.wide n Try.prog 39 #[.func (.yield lp) #[] #[], .pointer (some ⟨Bn, 0, none⟩)] W _
  refine callsIn_of_wp Try.func39 rfl trivial ?_ rfl
  simp only [Try.ntmps39, List.size_toArray, List.length_cons, List.length_nil, Nat.reduceAdd, Nat.reduceSub, Array.replicate_succ, Array.replicate_zero, List.push_toArray, List.append_toArray, List.nil_append, List.cons_append]
  gi_wp2
  gi_loopw [3] (fun p wr => ∃ (pre : List Told) (cur : List UInt8), p = .string ⟨cur.toArray⟩ ∧ TG l (pre.map (·.1)) cur ∧ J pre wr) (fun p _ => strLen p)
  case atStart => exact ⟨[], l, rfl, .nil, h0⟩
  case round =>
    obtain ⟨pre, cur, rfl, hT, hJs⟩ := hrel
    have hcl : cur.length ≤ 281474976710656 := Nat.le_trans hT.le hl
    by_cases hcur : cur = []
    · subst hcur
      have hall := hT.all
      rw [pieces_nil, List.append_nil] at hall
      gi_wp2
      (try simp only [Exit.inBlock, Exit.then])
      refine bodyPost_end (results_none rfl _ _ _) rfl ?_
      exact ⟨⟨_, rfl⟩, .inl ⟨pre, hall.symm, hJs⟩⟩
    · have hne : cur.isEmpty = false := by cases cur with | nil => exact absurd rfl hcur | cons => rfl
      have hlt := firstG_len cur hcur
      have hbd := firstG_body cur
      have hkl := kind_le cur
      have hstep := pieces_step cur hcur
      have c1 := fun W => first_any cur W hcl hcur
      have T0 : Hid ((firstG cur).1.1 = 0 → TG l (pre.map (·.1)) (firstG cur).2) := fun h => .none hT hcur h
      have T1 : Hid ((firstG cur).1.1 ≠ 0 → TG l (pre.map (·.1) ++ [(firstG cur).1]) (firstG cur).2) := fun h => .one hT hcur h
      have hall := hT.all
      have HM : Hid ((firstG cur).1.1 ≠ 0 → pre.length < (piecesL l).length) := fun h => by
        rw [hall, hstep, if_neg h, List.length_append, List.length_append, List.length_map]
        simp only [List.length_cons, List.length_nil]
        omega
      unfold pcV at c1
      generalize firstG cur = G at *
      obtain ⟨⟨k, bd⟩, r⟩ := G
      simp only at *
      clear hstep hall hT
      have HLt : Hid ((⟨r.toArray⟩ : ByteArray).size < (⟨cur.toArray⟩ : ByteArray).size) := by show _ < _; rw [size_list, size_list]; exact hlt
      gi_wp2_with fail
      refine ⟨trivial, fun h => by simp [Fence.wide] at h, ?_⟩
      gi_at_call 40; refine (callsIn_wide.2 (c1 _)).mono ?_; rintro e w1 ⟨rfl, hb1⟩
      have hR0 := (RowAt.new wr [.int .u8 0, .string ⟨#[]⟩] 70).below hb1
      obtain ⟨q0, q1, qf⟩ := cells2 hR0
      have hsz2 := hR0.lt
      have hBw : Below wr.heap.size wr w1 := below2 (below_new (Below.refl _ _) _) hb1
      clear hR0 hb1 c1
      by_cases hk : k = 0
      · subst hk
        have HE : Hid (TG l (pre.map (·.1)) r) := T0.out rfl
        clear T0 T1 HM
        gi_wp2
        refine ⟨fun _ e => (by cases e), ?_⟩
        have hb3 : Below wr.heap.size wr ((w1.setCell ⟨wr.heap.size, 0, none⟩ (.int .u8 0)).setCell ⟨wr.heap.size, 1, none⟩ (.string ⟨bd.toArray⟩)) := bset (bset hBw (Nat.le_refl _)) (Nat.le_refl _)
        have hJ1 := hJ pre wr _ none hJs (grown_of hb3) (fun r e => by cases e)
        have hs3 := hb3.size
        gi_wp2
        exact ⟨⟨pre, r, rfl, HE.out, hJ1⟩, HLt.out⟩
      · have hkn : ((k : Int) == 0) = false := by simpa using hk
        have hkn2 : ((k : Int) != 0) = true := by simpa using hk
        have HE := T1.out hk
        have hM := HM.out hk
        clear T0 T1 HM
        have hb3 : Below wr.heap.size wr ((w1.setCell ⟨wr.heap.size, 0, none⟩ (.int .u8 (k : Int))).setCell ⟨wr.heap.size, 1, none⟩ (.string ⟨bd.toArray⟩)) := bset (bset hBw (Nat.le_refl _)) (Nat.le_refl _)
        have hJ1 := hJ pre wr _ none hJs (grown_of hb3) (fun r e => by cases e)
        have hs3 := hb3.size
        obtain ⟨x, hx⟩ : ∃ x : Told, x.1 = (k, bd) := ⟨⟨(k, bd), hkl, hbd⟩, rfl⟩
        have hen : encs x = #[.agg #[.int .u8 (k : Int), .string ⟨bd.toArray⟩]] := by rw [encs, hx]
        have HE2 : Hid (TG l ((pre ++ [x]).map (·.1)) r) := by
          show TG _ _ _
          rw [List.map_append, List.map_singleton, hx]
          exact HE
        clear HE
        obtain ⟨fn, tmps, assign, body, hy, hR⟩ := hY pre x _ hJ1 hM
        rw [hen] at hy
        clear hx hen
        gi_wp2
        refine ⟨fun h => by simp [Fence.wide] at h, ?_⟩
        refine hR.mono ?_
        rintro e W3 (⟨rfl, hJ3, hk3⟩ | ⟨rfl, hJx3⟩)
        · gi_wp2
          exact ⟨⟨pre ++ [x], r, rfl, HE2.out, hJ3⟩, HLt.out⟩
        · gi_wp2
          (try simp only [Exit.inBlock, Exit.then])
          refine bodyPost_ret (results_none rfl _ _ _) rfl ?_
          exact ⟨⟨_, rfl⟩, .inr ⟨_, trivial, hJx3⟩⟩
end Go.Proofs.Ytopabkkapbaibaa.Gram
namespace Go.Proofs.Ytopabkkapbaibaa.Gram
open Go.RowKit Go.Shelf
open Go.Proofs.Ytopabkkapbaibaa.Addr (RowAt below2 below_drew below_new bset RowAt.lt RowAt.cell RowAt.frozen RowAt.below RowAt.drew RowAt.new RowAt.alloc cells2 cells4)

theorem each_any (s : ByteArray) (w : World) :
    Calls Try.prog 24 #[.string s] w fun e w' => e = .returned (.func (.func 39) #[] #[.pointer (some ⟨w.heap.size, 0, none⟩)]) ∧ w' = w.alloc (.cells #[.string s] 9) := by
  go_enter Try.func24, Try.ntmps24
  go_wp2
  go_ret
  exact ⟨rfl, rfl⟩
def rightP (p : PcT) : Bool := decide (0 < p.1) && decide (p.1 < 4) && (decide (p.1 = 1) || p.2.isEmpty)
set_option maxHeartbeats 2000000 in
theorem right_any (k : Nat) (b : List UInt8) (w : World) (hk : k ≤ 255) :
    Calls Try.prog 33 #[pcV (k, b)] w fun e w' => e = .returned (.bool (rightP (k, b))) ∧ Below w.heap.size w w' := by
  unfold pcV
  go_enter Try.func33, Try.ntmps33
  by_cases h0 : k = 0
  · subst h0
    have e : rightP (0, b) = false := by simp [rightP]
    rw [e]
    go_wp2
    go_ret
    exact ⟨rfl, below_new (Below.refl _ _) _⟩
  · have hp : decide ((0 : Int) < (k : Int)) = true := by simp; omega
    by_cases h4 : k < 4
    · have hq : decide ((k : Int) < 4) = true := by simp; omega
      by_cases h1 : k = 1
      · subst h1
        have e : rightP (1, b) = true := by simp [rightP]
        rw [e]
        go_wp2
        go_ret
        exact ⟨rfl, below_new (Below.refl _ _) _⟩
      · have hn : ((k : Int) == 1) = false := by simp; omega
        have e : rightP (k, b) = b.isEmpty := by simp only [rightP]; rw [decide_eq_true (by omega), decide_eq_true h4, decide_eq_false h1]; rfl
        rw [e]
        go_wp2
        go_ret
        exact ⟨rfl, below_new (Below.refl _ _) _⟩
    · have hq : decide ((k : Int) < 4) = false := by simp; omega
      have e : rightP (k, b) = false := by simp [rightP, h4]
      rw [e]
      go_wp2
      go_ret
      exact ⟨rfl, below_new (Below.refl _ _) _⟩
end Go.Proofs.Ytopabkkapbaibaa.Gram
namespace Go.Proofs.Ytopabkkapbaibaa.Gram
open Go.RowKit Go.Shelf
open Go.Proofs.Ytopabkkapbaibaa.Addr (RowAt below2 below_drew below_new bset RowAt.lt RowAt.cell RowAt.frozen RowAt.below RowAt.drew RowAt.new RowAt.alloc cells2 cells4)
attribute [local go_sem] Oper.semAt_some
attribute [-go_sem] Builtin.append_
theorem addr_add (b o j : Nat) : (⟨b, o, none⟩ : Addr).add j = ⟨b, o + j, none⟩ := by unfold Addr.add; split <;> simp_all
def strV (p : List UInt8) : Value := .string ⟨p.toArray⟩
def pcC (p : PcT) : List Value := [.int .u8 (p.1 : Int), strV p.2]
def pcCs (ps : List PcT) : List Value := ps.flatMap pcC
theorem pcCs_app (a b : List PcT) : pcCs (a ++ b) = pcCs a ++ pcCs b := by simp [pcCs]
theorem info_pc : (Try.prog.info? 70).map (fun i => (i.zero, i.size, i.bytes)) = some (some (.agg #[.int .u8 0, .string ⟨#[]⟩]), 2, 24) := by kernel_rfl
theorem info_parts {e sz by' : Nat} {z : Value} (h : (Try.prog.info? e).map (fun i => (i.zero, i.size, i.bytes)) = some (some z, sz, by')) : ∃ i, Try.prog.info? e = some i ∧ i.zero = some z ∧ i.size = sz ∧ i.bytes = by' := by
  cases hi : Try.prog.info? e with
  | none => rw [hi] at h; cases h
  | some i =>
    rw [hi] at h
    simp only [Option.map_some, Option.some.injEq, Prod.mk.injEq] at h
    exact ⟨i, rfl, h.1, h.2.1, h.2.2⟩
theorem append_pc {W : World} {n₀ k : Nat} {v : Value} {xs : List Value} (p : PcT) (hown : W.ownsRow n₀ 70 2 v k xs) (hk : k ≤ 4398046511104) (hn : n₀ ≤ W.heap.size) :
    ∃ g cap w3, (∀ ty, (Builtin.append_ #[31, 31] ty #[v, .slice (some ⟨W.heap.size, 0, none⟩) 1 1]).run Try.prog (W.alloc (.cells #[.int .u8 (p.1 : Int), .string ⟨p.2.toArray⟩] 70)) = .ok (.slice (some ⟨g, 0, none⟩) (k + 1) cap) w3) ∧
      w3.ownsRow n₀ 70 2 (.slice (some ⟨g, 0, none⟩) (k + 1) cap) (k + 1) (xs ++ pcC p) ∧ (W.alloc (.cells #[.int .u8 (p.1 : Int), .string ⟨p.2.toArray⟩] 70)).grownBy w3 v.ownBlock := by
  obtain ⟨i0, hi, hz0, hz1, hz2⟩ := info_parts info_pc
  have hrow := RowAt.new W (pcC p) 70
  have h := fun ty => run_append_own (P := Try.prog) (W.alloc (.cells #[.int .u8 (p.1 : Int), .string ⟨p.2.toArray⟩] 70)) n₀ 31 ty 70 i0 (.agg #[.int .u8 0, .string ⟨#[]⟩]) 2 24 Try.underlying31 hi hz0 hz1 hz2 rfl (by decide) v k xs (hown.alloc _) ⟨W.heap.size, 0, none⟩ 1 1 (pcC p) rfl
    (by intro j u hj; rw [addr_add, Nat.zero_add]; exact (hrow.cell j).trans hj) (by intro u hu; simp only [pcC, strV, List.mem_cons, List.not_mem_nil, or_false] at hu; rcases hu with rfl | rfl <;> rfl) (by unfold maxLen; omega) (by omega) (by simp; omega)
  obtain ⟨v', w3, hrun, h1, h2, h3⟩ := h 0
  obtain ⟨g, cap, rfl⟩ : ∃ g cap, v' = .slice (some ⟨g, 0, none⟩) (k + 1) cap := by
    rcases h1.2 with ⟨_, h0⟩ | ⟨g, cap, cur, e, _⟩
    · omega
    · exact ⟨g, cap, e⟩
  exact ⟨g, cap, w3, fun ty => hrun, h1, h2⟩
theorem own_keep {w w' : World} {B e size n : Nat} {v : Value} {xs : List Value} (h : w.ownsRow B e size v n xs) (hb : Below w.heap.size w w') : w'.ownsRow B e size v n xs := by
  refine h.kept (grown_of hb) ?_
  rcases h.2 with ⟨rfl, _⟩ | ⟨g, cap, cur, rfl, _⟩
  · exact .inl rfl
  · exact .inr (fun e => by simp [Value.ownBlock] at e)
theorem row_ne {W : World} {m e size k : Nat} {v : Value} {xs : List Value} (h : W.ownsRow m e size v k xs) {b : Nat} (hb : b < m) : some b ≠ v.ownBlock := by
  rcases h.2 with ⟨rfl, _⟩ | ⟨g, cap, cur, rfl, hg, _⟩
  · simp [Value.ownBlock]
  · intro e
    obtain rfl : b = g := by simpa [Value.ownBlock] using e
    omega
theorem own_down {W : World} {m n e size k : Nat} {v : Value} {xs : List Value} (h : W.ownsRow m e size v k xs) (hb : n ≤ m) : W.ownsRow n e size v k xs := by
  refine ⟨h.1, ?_⟩
  rcases h.2 with h | ⟨g, cap, cur, e1, hg, rest⟩
  · exact .inl h
  · exact .inr ⟨g, cap, cur, e1, Nat.le_trans hb hg, rest⟩
theorem ko_row {W W' : World} {m e size k : Nat} {v : Value} {xs : List Value} (hr : W.ownsRow m e size v k xs) (hg : W.grownBy W' v.ownBlock) : KeepsOthers W W' :=
  KeepsOthers.of_grownBy hg fun j o ej hj => by
    rcases hr.2 with ⟨rfl, _⟩ | ⟨g, cap, cur, rfl, _, hgb, _⟩
    · simp [Value.ownBlock] at ej
    · obtain rfl : g = j := by simpa [Value.ownBlock] using ej
      rw [hgb] at hj; cases hj; rfl
theorem own_set {W : World} {m e size k : Nat} {v : Value} {xs : List Value} (hr : W.ownsRow m e size v k xs) {b : Nat} (hb : b < m) (u : Value) : (W.setCell ⟨b, 0, none⟩ u).ownsRow m e size v k xs :=
  hr.kept (grownBy_setCell' W b u) (.inr (row_ne hr hb).symm)
theorem below_row {n : Nat} {w W W' : World} {m e size k : Nat} {v : Value} {xs : List Value} (h : Below n w W) (hn : n ≤ W.heap.size) (hnm : n ≤ m) (hr : W.ownsRow m e size v k xs) (hg : W.grownBy W' v.ownBlock) : Below n w W' :=
  h.grown hg hn (fun j ej => by
    rcases hr.2 with ⟨rfl, _⟩ | ⟨g, cap, cur, rfl, hb, _⟩
    · simp [Value.ownBlock] at ej
    · obtain rfl : g = j := by simpa [Value.ownBlock] using ej
      omega)
theorem set_same {W : World} {b : Nat} {x y : Value} {t : TypeId} (h : RowAt W b [x, y] t) : W.setCell ⟨b, 1, none⟩ y = W := by
  have hb : W.heap[b]? = some (.cells #[x, y] t (0, 0)) := h
  have key : ∀ f : Obj → Obj, f (.cells #[x, y] t (0, 0)) = .cells #[x, y] t (0, 0) → W.heap.modify b f = W.heap := by
    intro f hf
    apply Array.ext_getElem?
    intro i
    rw [Array.getElem?_modify]
    split
    · rename_i e
      subst e
      rw [hb, Option.map_some, hf]
    · rfl
  unfold World.setCell
  rw [key _ (by simp)]
/-- between two rounds of a loop that gathers pieces -/
def Gath (n₀ m b0 : Nat) (w : World) (pre : List Told) (W : World) : Prop :=
  (∃ v, Boxed W b0 31 v ∧ W.ownsRow m 70 2 v pre.length (pcCs (pre.map (·.1))) ∧ True) ∧ Below n₀ w W ∧ m ≤ W.heap.size
theorem gath_own (n₀ m b0 B : Nat) (w : World) (hn : n₀ ≤ w.heap.size) (hB : n₀ ≤ B) : OwnFrom B (Gath n₀ m b0 w) :=
  OwnFrom.and (Own.from (holdsRow_own m b0 31 70 2 (fun pre : List Told => pre.length) (fun pre => pcCs (pre.map (·.1))) (fun _ _ => True)) B)
    (OwnFrom.and (ownFrom_below hn hB) (fun _ _ _ _ hs hg _ => Nat.le_trans hs hg.size))
/-- the loop's variable -/
def FBox (B : Nat) (x : Told) (W : World) (Bx : Nat) : Prop := B ≤ Bx ∧ RowAt W Bx [.int .u8 (x.1.1 : Int), .string ⟨x.1.2.toArray⟩] 70
theorem fbox_own (B : Nat) (x : Told) (Bx : Nat) : Own (fun (_ : Unit) W => FBox B x W Bx) := by
  rintro s X Y row ⟨h1, h2⟩ hg hrow
  refine ⟨h1, (hg.block Bx h2.lt (fun e => ?_)).trans h2⟩
  obtain ⟨o, ho, hc⟩ := hrow Bx e.symm
  rw [show X.heap[Bx]? = _ from h2] at ho; cases ho; cases hc

set_option maxHeartbeats 4000000 in
set_option maxRecDepth 20000 in
theorem pieces_any (l : List UInt8) (w : World) (hl : l.length ≤ 281474976710656) (hm : (piecesL l).length ≤ 4398046511104) :
    Calls Try.prog 12 #[.string ⟨l.toArray⟩] w fun e w' => ∃ v, e = .returned v ∧ w'.ownsRow w.heap.size 70 2 v (piecesL l).length (pcCs (piecesL l)) ∧ Below w.heap.size w w' := by
  refine (callsIn_wide (n := 5)).1 ?_
  refine callsIn_of_wp_marks Try.func12 rfl trivial ?_ rfl
  simp only [Try.ntmps12, List.size_toArray, List.length_cons, List.length_nil, Nat.reduceAdd, Nat.reduceSub, Array.replicate_succ, Array.replicate_zero, List.push_toArray, List.append_toArray, List.nil_append, List.cons_append]
  gi_wp2_with fail
  refine ⟨trivial, ?_⟩
  gi_at_call 24; refine (callsIn_wide.2 (each_any _ _)).mono ?_; rintro e w1 ⟨rfl, rfl⟩
  gi_wp2_with fail
  obtain ⟨W0, hW0⟩ : ∃ W0, (w.alloc (.cells #[.slice none 0 0] 31)).alloc (.cells #[.string ⟨l.toArray⟩] 9) = W0 := ⟨_, rfl⟩
  have hs0 : W0.heap.size = w.heap.size + 1 + 1 := by rw [← hW0]; simp
  have g0 : Gath w.heap.size (w.heap.size + 1 + 1) w.heap.size w [] W0 := by
    rw [← hW0]
    exact ⟨⟨_, (Boxed.new w _ _).alloc _, World.ownsRow_nil _ _ _ _, trivial⟩, ((Below.refl _ w).alloc (Nat.le_refl _) _).alloc (by simp) _, by simp⟩
  have hcs : W0.cell? ⟨w.heap.size + 1, 0, none⟩ = some (.string ⟨l.toArray⟩) := by
    have := (Boxed.new (w.alloc (.cells #[.slice none 0 0] 31)) 9 (.string ⟨l.toArray⟩)).cell
    rw [World.size_alloc, hW0] at this
    exact this
  rw [hW0]
  clear hW0
  refine wpIn_rangeFunc_ownH (α := Told) rfl (by omega) (gf := 39) (lb := #[.pointer (some ⟨w.heap.size + 1, 0, none⟩)]) rfl trivial (enters_of Try.func39 (by kernel_rfl) rfl)
    (each1_stops l hl (5 - 1) (w.heap.size + 1) W0 (by omega) hcs) (fun h k => trivial) (fun W l o o' _ h hc _ => trivial) (Below.refl _ _) (fun _ => rfl)
    (Gath w.heap.size (w.heap.size + 1 + 1) w.heap.size w)
    (fun c pre W => False)
    (gath_own _ _ _ _ w (Nat.le_refl _) (by omega))
    (fun c s A B row hs hg hr => hs)
    g0
    (fun x a' W => ∃ Bx, FBox W0.heap.size x W Bx ∧ a' = { tmps := #[.string ⟨l.toArray⟩, undef, .slice none 0 0, .pointer (some ⟨w.heap.size, 0, none⟩), .pointer (some ⟨Bx, 0, none⟩), .string ⟨l.toArray⟩, .func (.func 39) #[] #[.pointer (some ⟨w.heap.size + 1, 0, none⟩)], .agg #[.int .u8 (x.1.1 : Int), .string ⟨x.1.2.toArray⟩], undef, undef, undef, undef, undef, undef, undef, undef, undef], defers := [] })
    (fun x a' s A B row hs hg hr => by
      obtain ⟨Bx, h, e⟩ := hs
      exact ⟨Bx, Own.from (fbox_own _ x Bx) _ () A B row h hg hr, e⟩)
    ?assign ?body ?done ?stop
  case assign =>
    rintro lp pre x W K hG hK
    have hBs := hG.2.2
    have hA := hK _ _ ((KeepsOthers.alloc W (.cells #[.int .u8 (x.1.1 : Int), .string ⟨x.1.2.toArray⟩] 70)).from _) trivial (gath_own _ _ _ W0.heap.size w (Nat.le_refl _) (by omega) pre W _ none hG (World.grownBy_alloc W _ none) (fun r e => by cases e)) ⟨W.heap.size, ⟨?_, RowAt.new W [.int .u8 (x.1.1 : Int), .string ⟨x.1.2.toArray⟩] 70⟩, rfl⟩
    · unfold encs
      gi_wp2
      exact hA
    · rw [hs0]; exact hBs
  case body =>
    rintro lp pre x a' W hlp ⟨rr, hrr⟩ hG ⟨Bx, hF, rfl⟩ hlt
    obtain ⟨⟨v, hv, hown, -⟩, hB, hm3⟩ := hG
    obtain ⟨q0, q1, qf⟩ := cells2 hF.2
    have hc0 := hv.cell
    have hf0 := hv.frozen
    have hk : pre.length ≤ 4398046511104 := by omega
    have hxl := x.2
    have cp := fun W => Msg.clone_any ⟨x.1.2.toArray⟩ W (by rw [size_list]; omega)
    have hFr := hF.2
    clear hxl
    gi_wp2_with fail
    refine ⟨trivial, ?_⟩
    gi_at_call 23
    refine (CallsIn.inRound lp (callsIn_wide.2 (cp _))).mono ?_
    rintro e w2 ⟨rfl, hb2⟩
    have hF2 := hFr.below hb2
    obtain ⟨p0, p1, pf⟩ := cells2 hF2
    gi_upto_region 5 with fail
    rw [set_same hF2]
    have hbW : Below W.heap.size W w2 := hb2
    have hv2 : Boxed w2 w.heap.size 31 v := (hbW.block _ hv.lt).trans hv
    have hown2 := own_keep hown hbW
    have hw2 := hbW.size
    obtain ⟨g, cap, w3, hrun, hown3, hgrow⟩ := append_pc x.1 hown2 hk (Nat.le_trans hm3 hbW.size)
    have hv3 := hv2.cell
    have hf3 := hv2.frozen
    have hv4 : Boxed w3 w.heap.size 31 v := (hv2.alloc _).kept hgrow (row_ne hown2 (by omega))
    have hv5 := hv4.cell
    have hf5 := hv4.frozen
    have hv6 := (hv2.alloc (.cells #[.int .u8 (x.1.1 : Int), .string ⟨x.1.2.toArray⟩] 70)).cell
    have mixed : Try.prog.follows .mixedOrders = true := by kernel_rfl
    gi_wp2
    refine ⟨?_, trivial, ⟨⟨_, hv4.set _, ?_, trivial⟩, ?_, ?_⟩⟩
    · exact ((((KeepsOthers.of_grownBy (grown_of hbW) (fun _ _ e => by cases e)).trans (KeepsOthers.alloc _ _)).trans (ko_row (hown2.alloc _) hgrow)).trans (KeepsOthers.setCell _ _ _)).from _
    · rw [List.length_append, List.map_append, pcCs_app]
      have := own_set hown3 (b := w.heap.size) (by omega) (.slice (some ⟨g, 0, none⟩) (pre.length + 1) cap)
      simp only [List.map_cons, List.map_nil, pcCs, List.flatMap_cons, List.flatMap_nil, List.append_nil]
      exact this
    · exact (below_row ((hB.trans (hbW.mono hB.size)).alloc (Nat.le_trans hB.size hbW.size) _) (by have := hbW.size; have := hB.size; simp; omega) (by omega) (hown2.alloc _) hgrow).setCell (p := ⟨w.heap.size, 0, none⟩) (Nat.le_refl _) _
    · have h1 := hgrow.size
      rw [World.size_alloc] at h1
      simp
      omega
  case done =>
    rintro D xs W hD hS ⟨⟨v, hv, hown, -⟩, hB, hm3⟩ hK
    have hc0 := hv.cell
    have mixed : Try.prog.follows .mixedOrders = true := by kernel_rfl
    gi_wp2
    refine ⟨by simp, .inl ⟨_, _, rfl, run_takeDeferred (w := W) hK, ?_⟩⟩
    refine ⟨_, results_tmp rfl _ _ _, ?_⟩
    have hS' : xs.map (·.1) = piecesL l := hS
    refine ⟨v, rfl, ?_, ?_⟩
    · rw [← hS', List.length_map]
      exact own_down (ownsRow_putObj hown _ hK rfl) (by omega)
    · exact hB.trans (belowK_b (w := w) (Nat.le_refl _) W D _ _ (by omega) hK rfl rfl)
  case stop =>
    rintro D c pre W hD _ h
    exact h.elim
end Go.Proofs.Ytopabkkapbaibaa.Gram
namespace Go.Proofs.Ytopabkkapbaibaa.Gram
open Go.RowKit Go.Shelf
open Go.Proofs.Ytopabkkapbaibaa.Addr (hiN loN RowAt below2 below_drew below_new bset RowAt.lt RowAt.cell RowAt.frozen RowAt.below RowAt.drew RowAt.new RowAt.alloc cells2 cells4 results_cell)
open Go.Proofs.Ytopabkkapbaibaa.Msg (Ev evV evC getE eget_any zeroE zeroC cells12)
abbrev GtT : Type := Ev × Int
def gtC (g : GtT) : List Value := evC g.1 ++ [.int .i64 g.2]
def gtV (g : GtT) : Value := .agg (gtC g).toArray
def gotG (p : PcT) : GtT := if p.1 = 2 then (zeroE, 7) else if p.1 = 3 then (zeroE, 11) else if (getE p.2).2 = 0 then ((getE p.2).1, 0) else (zeroE, 2)
theorem gtV_z (y : Int) : gtV (zeroE, y) = .agg #[.int .u8 0, .int .i64 0, .int .u64 0, .int .i64 0, .bool false, .int .u64 0, .int .u64 0, .int .i64 0, .int .u8 0, .int .i64 0, .int .i64 0, .int .i64 0, .int .i64 y] := by unfold gtV gtC; rw [zeroC]; rfl
theorem cells13 {W : World} {b : Nat} {a0 a1 a2 a3 a4 a5 a6 a7 a8 a9 a10 a11 a12 : Value} {t : TypeId} (h : RowAt W b [a0, a1, a2, a3, a4, a5, a6, a7, a8, a9, a10, a11, a12] t) :
    (W.cell? ⟨b, 0, none⟩ = some a0 ∧ W.cell? ⟨b, 1, none⟩ = some a1 ∧ W.cell? ⟨b, 2, none⟩ = some a2 ∧ W.cell? ⟨b, 3, none⟩ = some a3 ∧ W.cell? ⟨b, 4, none⟩ = some a4 ∧ W.cell? ⟨b, 5, none⟩ = some a5) ∧ (W.cell? ⟨b, 6, none⟩ = some a6 ∧ W.cell? ⟨b, 7, none⟩ = some a7 ∧ W.cell? ⟨b, 8, none⟩ = some a8 ∧ W.cell? ⟨b, 9, none⟩ = some a9 ∧ W.cell? ⟨b, 10, none⟩ = some a10 ∧ W.cell? ⟨b, 11, none⟩ = some a11 ∧ W.cell? ⟨b, 12, none⟩ = some a12) ∧ (∀ k, W.frozen? ⟨b, k, none⟩ = false) ∧ b < W.heap.size :=
  ⟨⟨RowAt.cell h 0, RowAt.cell h 1, RowAt.cell h 2, RowAt.cell h 3, RowAt.cell h 4, RowAt.cell h 5⟩, ⟨RowAt.cell h 6, RowAt.cell h 7, RowAt.cell h 8, RowAt.cell h 9, RowAt.cell h 10, RowAt.cell h 11, RowAt.cell h 12⟩, RowAt.frozen h, RowAt.lt h⟩
set_option maxHeartbeats 4000000 in
theorem got_any (k : Nat) (b : List UInt8) (w : World) (hk : k ≤ 255) (hb : (b.length : Int) ≤ 200000000000000) :
    Calls Try.prog 25 #[pcV (k, b)] w fun e w' => e = .returned (gtV (gotG (k, b))) ∧ Below w.heap.size w w' := by
  have c1 := fun W => eget_any b W hb
  have HG : Hid (∀ k, gotG (k, b) = if k = 2 then (zeroE, 7) else if k = 3 then (zeroE, 11) else if (getE b).2 = 0 then ((getE b).1, 0) else (zeroE, 2)) := fun _ => rfl
  generalize hg : gotG (k, b) = G
  have HG2 : Hid (G = if k = 2 then (zeroE, 7) else if k = 3 then (zeroE, 11) else if (getE b).2 = 0 then ((getE b).1, 0) else (zeroE, 2)) := by show G = _; rw [← hg]; exact HG.out k
  clear hg HG
  generalize getE b = E at *
  obtain ⟨⟨ek, er, es, et, ⟨s6, n, ln⟩, ⟨ak, ai⟩, ei, ee⟩, y⟩ := E
  unfold evV evC at c1
  simp only at c1
  have HEQ : Hid (gtV (⟨ek, er, es, et, ⟨s6, n, ln⟩, ⟨ak, ai⟩, ei, ee⟩, 0) = .agg #[.int .u8 (ek : Int), .int .i64 er, .int .u64 (es : Int), .int .i64 et, .bool s6, .int .u64 (hiN n : Int), .int .u64 (loN n : Int), .int .i64 ln, .int .u8 (ak : Int), .int .i64 ai, .int .i64 ei, .int .i64 ee, .int .i64 0]) := rfl
  generalize hh : hiN n = nh at *
  generalize hh2 : loN n = nl at *
  clear hh hh2
  unfold pcV
  obtain ⟨X, hX⟩ : ∃ X, X = (w.alloc (.cells #[.int .u8 (k : Int), .string ⟨b.toArray⟩] 70)).alloc (.cells #[.int .u8 0, .int .i64 0, .int .u64 0, .int .i64 0, .bool false, .int .u64 0, .int .u64 0, .int .i64 0, .int .u8 0, .int .i64 0, .int .i64 0, .int .i64 0, .int .i64 0] 52) := ⟨_, rfl⟩
  have hB : Below w.heap.size w X := by rw [hX]; exact below_new (below_new (Below.refl _ _) _) _
  have rx : RowAt X (w.heap.size + 1) [.int .u8 0, .int .i64 0, .int .u64 0, .int .i64 0, .bool false, .int .u64 0, .int .u64 0, .int .i64 0, .int .u8 0, .int .i64 0, .int .i64 0, .int .i64 0, .int .i64 0] 52 := by rw [hX, ← World.size_alloc w (.cells #[.int .u8 (k : Int), .string ⟨b.toArray⟩] 70)]; exact RowAt.new _ _ _
  have rp : RowAt X w.heap.size [.int .u8 (k : Int), .string ⟨b.toArray⟩] 70 := by rw [hX]; exact (RowAt.new _ _ _).alloc _
  go_enter Try.func25, Try.ntmps25
  go_upto_region 1 with fail
  rw [← hX]
  clear hX
  obtain ⟨r0, r1, rf⟩ := cells2 rp
  by_cases h2 : k = 2
  · subst h2
    have e : G = (zeroE, 7) := HG2.out
    clear HG2 c1
    obtain ⟨⟨y0, y1, y2, y3, y4, y5⟩, ⟨y6, y7, y8, y9, y10, y11, y12⟩, yf, yl⟩ := cells13 rx
    clear rx rp
    go_wp2_with fail
    refine bodyPost_ret (v := .agg #[.int .u8 0, .int .i64 0, .int .u64 0, .int .i64 0, .bool false, .int .u64 0, .int .u64 0, .int .i64 0, .int .u8 0, .int .i64 0, .int .i64 0, .int .i64 0, .int .i64 7]) ?_ rfl ⟨by rw [e, gtV_z], ?_⟩
    · rw [results_cell rfl]
      go_simp
    · repeat' (first | with_reducible exact hB | with_reducible refine bset ?_ (by omega))
  · have n2 : ((k : Int) == 2) = false := by simp; omega
    by_cases h3 : k = 3
    · subst h3
      have e : G = (zeroE, 11) := HG2.out
      clear HG2 c1
      obtain ⟨⟨y0, y1, y2, y3, y4, y5⟩, ⟨y6, y7, y8, y9, y10, y11, y12⟩, yf, yl⟩ := cells13 rx
      clear rx rp
      go_wp2_with fail
      refine bodyPost_ret (v := .agg #[.int .u8 0, .int .i64 0, .int .u64 0, .int .i64 0, .bool false, .int .u64 0, .int .u64 0, .int .i64 0, .int .u8 0, .int .i64 0, .int .i64 0, .int .i64 0, .int .i64 11]) ?_ rfl ⟨by rw [e, gtV_z], ?_⟩
      · rw [results_cell rfl]
        go_simp
      · repeat' (first | with_reducible exact hB | with_reducible refine bset ?_ (by omega))
    · have n3 : ((k : Int) == 3) = false := by simp; omega
      have e := HG2.out
      rw [if_neg h2, if_neg h3] at e
      clear HG2
      have hlx := RowAt.lt rx
      go_wp2_with fail
      go_at_call 41; refine (c1 _).mono ?_; rintro e w1 ⟨rfl, hb1⟩
      go_upto_region 7 with fail
      obtain ⟨Y, hY⟩ : ∃ Y, Y = w1.alloc (.cells #[.int .u8 (ek : Int), .int .i64 er, .int .u64 (es : Int), .int .i64 et, .bool s6, .int .u64 (nh : Int), .int .u64 (nl : Int), .int .i64 ln, .int .u8 (ak : Int), .int .i64 ai, .int .i64 ei, .int .i64 ee] 50) := ⟨_, rfl⟩
      have hbY : Below w1.heap.size w1 Y := by rw [hY]; exact below_new (Below.refl _ _) _
      have tY : RowAt Y w1.heap.size [.int .u8 (ek : Int), .int .i64 er, .int .u64 (es : Int), .int .i64 et, .bool s6, .int .u64 (nh : Int), .int .u64 (nl : Int), .int .i64 ln, .int .u8 (ak : Int), .int .i64 ai, .int .i64 ei, .int .i64 ee] 50 := by rw [hY]; exact RowAt.new _ _ _
      rw [← hY]
      replace rx := RowAt.below (RowAt.below rx hb1) hbY
      replace hB := below2 (below2 hB hb1) hbY
      have hgt : w.heap.size + 1 < w1.heap.size := Nat.lt_of_lt_of_le hlx hb1.size
      clear hY hbY hb1 c1 hlx rp r0 r1 rf
      generalize w1.heap.size = t1 at tY hgt ⊢
      obtain ⟨⟨u0, u1, u2, u3, u4, u5⟩, ⟨u6, u7, u8, u9, u10, u11⟩, uf, ul⟩ := cells12 tY
      obtain ⟨⟨y0, y1, y2, y3, y4, y5⟩, ⟨y6, y7, y8, y9, y10, y11, y12⟩, yf, yl⟩ := cells13 rx
      clear tY rx
      by_cases hy : y = 0
      · subst hy
        rw [if_pos rfl] at e
        go_wp2_with fail
        refine bodyPost_ret (v := .agg #[.int .u8 (ek : Int), .int .i64 er, .int .u64 (es : Int), .int .i64 et, .bool s6, .int .u64 (nh : Int), .int .u64 (nl : Int), .int .i64 ln, .int .u8 (ak : Int), .int .i64 ai, .int .i64 ei, .int .i64 ee, .int .i64 0]) ?_ rfl ⟨by rw [e, HEQ.out], ?_⟩
        · rw [results_cell rfl]
          go_simp
        · repeat' (first | with_reducible exact hB | with_reducible refine bset ?_ (by omega))
      · have ny : (y != 0) = true := by simpa using hy
        rw [if_neg hy] at e
        go_wp2_with fail
        refine bodyPost_ret (v := .agg #[.int .u8 0, .int .i64 0, .int .u64 0, .int .i64 0, .bool false, .int .u64 0, .int .u64 0, .int .i64 0, .int .u8 0, .int .i64 0, .int .i64 0, .int .i64 0, .int .i64 2]) ?_ rfl ⟨by rw [e, gtV_z], ?_⟩
        · rw [results_cell rfl]
          go_simp
        · repeat' (first | with_reducible exact hB | with_reducible refine bset ?_ (by omega))
end Go.Proofs.Ytopabkkapbaibaa.Gram
namespace Go.Proofs.Ytopabkkapbaibaa.Gram
open Go.RowKit Go.Shelf
open Go.Proofs.Ytopabkkapbaibaa.Addr (hiN loN RowAt below2 below_drew below_new bset RowAt.lt RowAt.cell RowAt.frozen RowAt.below RowAt.drew RowAt.new RowAt.alloc cells2 cells4)
open Go.Proofs.Ytopabkkapbaibaa.Msg (Ev evV evC getE eget_any zeroE zeroC cells12)
attribute [local go_sem] Oper.semAt_some
attribute [-go_sem] Builtin.append_
def gtCs (gs : List GtT) : List Value := gs.flatMap gtC
theorem gtCs_app (a b : List GtT) : gtCs (a ++ b) = gtCs a ++ gtCs b := by simp [gtCs]
theorem info_gt : (Try.prog.info? 52).map (fun i => (i.zero, i.size, i.bytes)) = some (some (.agg #[.int .u8 0, .int .i64 0, .int .u64 0, .int .i64 0, .bool false, .int .u64 0, .int .u64 0, .int .i64 0, .int .u8 0, .int .i64 0, .int .i64 0, .int .i64 0, .int .i64 0]), 13, 104) := by kernel_rfl
theorem append_gt {W : World} {n₀ k : Nat} {v : Value} {xs : List Value} (p : GtT) (hown : W.ownsRow n₀ 52 13 v k xs) (hk : k ≤ 1000000000000) (hn : n₀ ≤ W.heap.size) :
    ∃ g cap w3, (∀ ty, (Builtin.append_ #[37, 37] ty #[v, .slice (some ⟨W.heap.size, 0, none⟩) 1 1]).run Try.prog (W.alloc (.cells (gtC p).toArray 52)) = .ok (.slice (some ⟨g, 0, none⟩) (k + 1) cap) w3) ∧
      w3.ownsRow n₀ 52 13 (.slice (some ⟨g, 0, none⟩) (k + 1) cap) (k + 1) (xs ++ gtC p) ∧ (W.alloc (.cells (gtC p).toArray 52)).grownBy w3 v.ownBlock := by
  obtain ⟨i0, hi, hz0, hz1, hz2⟩ := info_parts info_gt
  have hrow := RowAt.new W (gtC p) 52
  have h := fun ty => run_append_own (P := Try.prog) (W.alloc (.cells (gtC p).toArray 52)) n₀ 37 ty 52 i0 _ 13 104 Try.underlying37 hi hz0 hz1 hz2 rfl (by decide) v k xs (hown.alloc _) ⟨W.heap.size, 0, none⟩ 1 1 (gtC p) rfl
    (by intro j u hj; rw [addr_add, Nat.zero_add]; exact (hrow.cell j).trans hj) (by intro u hu; simp only [gtC, evC, List.cons_append, List.nil_append, List.mem_cons, List.not_mem_nil, or_false] at hu; rcases hu with rfl | rfl | rfl | rfl | rfl | rfl | rfl | rfl | rfl | rfl | rfl | rfl | rfl <;> rfl) (by unfold maxLen; omega) (by omega) (by simp; omega)
  obtain ⟨v', w3, hrun, h1, h2, h3⟩ := h 0
  obtain ⟨g, cap, rfl⟩ : ∃ g cap, v' = .slice (some ⟨g, 0, none⟩) (k + 1) cap := by
    rcases h1.2 with ⟨_, h0⟩ | ⟨g, cap, cur, e, _⟩
    · omega
    · exact ⟨g, cap, e⟩
  exact ⟨g, cap, w3, fun ty => hrun, h1, h2⟩
def gots (pre : List Told) : List GtT := pre.map (fun x => gotG x.1)
/-- between two rounds of a loop that gathers what comes of pieces -/
def GathG (n₀ m b0 : Nat) (w : World) (pre : List Told) (W : World) : Prop :=
  (∃ v, Boxed W b0 37 v ∧ W.ownsRow m 52 13 v pre.length (gtCs (gots pre)) ∧ True) ∧ Below n₀ w W ∧ m ≤ W.heap.size
theorem gathG_own (n₀ m b0 B : Nat) (w : World) (hn : n₀ ≤ w.heap.size) (hB : n₀ ≤ B) : OwnFrom B (GathG n₀ m b0 w) :=
  OwnFrom.and (Own.from (holdsRow_own m b0 37 52 13 (fun pre : List Told => pre.length) (fun pre => gtCs (gots pre)) (fun _ _ => True)) B)
    (OwnFrom.and (ownFrom_below hn hB) (fun _ _ _ _ hs hg _ => Nat.le_trans hs hg.size))
set_option maxHeartbeats 4000000 in
set_option maxRecDepth 20000 in
theorem gots_any (l : List UInt8) (w : World) (hl : l.length ≤ 281474976710656) (hm : (piecesL l).length ≤ 1000000000000) :
    Calls Try.prog 13 #[.string ⟨l.toArray⟩] w fun e w' => ∃ v, e = .returned v ∧ w'.ownsRow w.heap.size 52 13 v (piecesL l).length (gtCs ((piecesL l).map gotG)) ∧ Below w.heap.size w w' := by
  refine (callsIn_wide (n := 5)).1 ?_
  refine callsIn_of_wp_marks Try.func13 rfl trivial ?_ rfl
  simp only [Try.ntmps13, List.size_toArray, List.length_cons, List.length_nil, Nat.reduceAdd, Nat.reduceSub, Array.replicate_succ, Array.replicate_zero, List.push_toArray, List.append_toArray, List.nil_append, List.cons_append]
  gi_wp2_with fail
  refine ⟨trivial, ?_⟩
  gi_at_call 24; refine (callsIn_wide.2 (each_any _ _)).mono ?_; rintro e w1 ⟨rfl, rfl⟩
  gi_wp2_with fail
  obtain ⟨W0, hW0⟩ : ∃ W0, (w.alloc (.cells #[.slice none 0 0] 37)).alloc (.cells #[.string ⟨l.toArray⟩] 9) = W0 := ⟨_, rfl⟩
  have hs0 : W0.heap.size = w.heap.size + 1 + 1 := by rw [← hW0]; simp
  have g0 : GathG w.heap.size (w.heap.size + 1 + 1) w.heap.size w [] W0 := by
    rw [← hW0]
    exact ⟨⟨_, (Boxed.new w _ _).alloc _, World.ownsRow_nil _ _ _ _, trivial⟩, ((Below.refl _ w).alloc (Nat.le_refl _) _).alloc (by simp) _, by simp⟩
  have hcs : W0.cell? ⟨w.heap.size + 1, 0, none⟩ = some (.string ⟨l.toArray⟩) := by
    have := (Boxed.new (w.alloc (.cells #[.slice none 0 0] 37)) 9 (.string ⟨l.toArray⟩)).cell
    rw [World.size_alloc, hW0] at this
    exact this
  rw [hW0]
  clear hW0
  refine wpIn_rangeFunc_ownH (α := Told) rfl (by omega) (gf := 39) (lb := #[.pointer (some ⟨w.heap.size + 1, 0, none⟩)]) rfl trivial (enters_of Try.func39 (by kernel_rfl) rfl)
    (each1_stops l hl (5 - 1) (w.heap.size + 1) W0 (by omega) hcs) (fun h k => trivial) (fun W l o o' _ h hc _ => trivial) (Below.refl _ _) (fun _ => rfl)
    (GathG w.heap.size (w.heap.size + 1 + 1) w.heap.size w)
    (fun c pre W => False)
    (gathG_own _ _ _ _ w (Nat.le_refl _) (by omega))
    (fun c s A B row hs hg hr => hs)
    g0
    (fun x a' W => ∃ Bx, FBox W0.heap.size x W Bx ∧ a' = { tmps := #[.string ⟨l.toArray⟩, undef, .slice none 0 0, .pointer (some ⟨w.heap.size, 0, none⟩), .pointer (some ⟨Bx, 0, none⟩), .string ⟨l.toArray⟩, .func (.func 39) #[] #[.pointer (some ⟨w.heap.size + 1, 0, none⟩)], .agg #[.int .u8 (x.1.1 : Int), .string ⟨x.1.2.toArray⟩], undef, undef, undef, undef, undef, undef], defers := [] })
    (fun x a' s A B row hs hg hr => by
      obtain ⟨Bx, h, e⟩ := hs
      exact ⟨Bx, Own.from (fbox_own _ x Bx) _ () A B row h hg hr, e⟩)
    ?assign ?body ?done ?stop
  case assign =>
    rintro lp pre x W K hG hK
    have hBs := hG.2.2
    have hA := hK _ _ ((KeepsOthers.alloc W (.cells #[.int .u8 (x.1.1 : Int), .string ⟨x.1.2.toArray⟩] 70)).from _) trivial (gathG_own _ _ _ W0.heap.size w (Nat.le_refl _) (by omega) pre W _ none hG (World.grownBy_alloc W _ none) (fun r e => by cases e)) ⟨W.heap.size, ⟨?_, RowAt.new W [.int .u8 (x.1.1 : Int), .string ⟨x.1.2.toArray⟩] 70⟩, rfl⟩
    · unfold encs
      gi_wp2
      exact hA
    · rw [hs0]; exact hBs
  case body =>
    rintro lp pre x a' W hlp ⟨rr, hrr⟩ hG ⟨Bx, hF, rfl⟩ hlt
    obtain ⟨⟨v, hv, hown, -⟩, hB, hm3⟩ := hG
    obtain ⟨q0, q1, qf⟩ := cells2 hF.2
    have hc0 := hv.cell
    have hf0 := hv.frozen
    have hk : pre.length ≤ 1000000000000 := by omega
    have hxl := x.2
    have cp := fun W => got_any x.1.1 x.1.2 W hxl.1 (by omega)
    have hFr := hF.2
    obtain ⟨y, hy⟩ : ∃ y, gotG (x.1.1, x.1.2) = y := ⟨_, rfl⟩
    have HY : Hid (gotG x.1 = y) := hy
    rw [hy] at cp
    clear hxl hy
    unfold pcV gtV gtC evC at cp
    simp only [List.cons_append, List.nil_append] at cp
    have mixed : Try.prog.follows .mixedOrders = true := by kernel_rfl
    gi_wp2_with fail
    gi_region_with_o (
      refine ⟨trivial, ?_⟩
      gi_at_call 25
      refine (CallsIn.inRound lp (callsIn_wide.2 (cp _))).mono ?_
      rintro e w2 ⟨rfl, hb2⟩
      have hbW : Below W.heap.size W w2 := below2 (by (repeat' (first | exact Below.refl _ _ | refine Below.drew ?_))) hb2
      have hv2 : Boxed w2 w.heap.size 37 v := (hbW.block _ hv.lt).trans hv
      have hown2 := own_keep hown hbW
      have hw2 := hbW.size
      obtain ⟨g, cap, w3, hrun, hown3, hgrow⟩ := append_gt y hown2 hk (Nat.le_trans hm3 hbW.size)
      have hv3 := hv2.cell
      have hf3 := hv2.frozen
      have hv4 : Boxed w3 w.heap.size 37 v := (hv2.alloc _).kept hgrow (row_ne hown2 (by omega))
      have hv5 := hv4.cell
      have hf5 := hv4.frozen
      have hv6 := (hv2.alloc (.cells (gtC y).toArray 52)).cell
      simp only [gtC, evC, List.cons_append, List.nil_append] at hrun hv6)
    all_goals (try gi_wp2)
    all_goals refine ⟨?_, trivial, ⟨⟨_, hv4.set _, ?_, trivial⟩, ?_, ?_⟩⟩
    all_goals first
      | exact ((((KeepsOthers.of_grownBy (grown_of hbW) (fun _ _ e => by cases e)).trans (KeepsOthers.alloc _ _)).trans (ko_row (hown2.alloc _) hgrow)).trans (KeepsOthers.setCell _ _ _)).from _
      | (have this := own_set hown3 (b := w.heap.size) (by omega) (.slice (some ⟨g, 0, none⟩) (pre.length + 1) cap)
         rw [List.length_append, gots, List.map_append, gtCs_app]
         simp only [List.map_cons, List.map_nil, HY.out]
         rw [show gtCs [y] = gtC y by simp [gtCs]]
         exact this)
      | exact (below_row ((hB.trans (hbW.mono hB.size)).alloc (Nat.le_trans hB.size hbW.size) _) (by have := hbW.size; have := hB.size; simp; omega) (by omega) (hown2.alloc _) hgrow).setCell (p := ⟨w.heap.size, 0, none⟩) (Nat.le_refl _) _
      | (have h1 := hgrow.size; rw [World.size_alloc] at h1; simp; omega)
      | skip
  case done =>
    rintro D xs W hD hS ⟨⟨v, hv, hown, -⟩, hB, hm3⟩ hK
    have hc0 := hv.cell
    have mixed : Try.prog.follows .mixedOrders = true := by kernel_rfl
    gi_wp2
    refine ⟨by simp, .inl ⟨_, _, rfl, run_takeDeferred (w := W) hK, ?_⟩⟩
    refine ⟨_, results_tmp rfl _ _ _, ?_⟩
    have hS' : xs.map (·.1) = piecesL l := hS
    refine ⟨v, rfl, ?_, ?_⟩
    · rw [← hS', List.length_map, List.map_map]
      exact own_down (ownsRow_putObj hown _ hK rfl) (by omega)
    · exact hB.trans (belowK_b (w := w) (Nat.le_refl _) W D _ _ (by omega) hK rfl rfl)
  case stop =>
    rintro D c pre W hD _ h
    exact h.elim
end Go.Proofs.Ytopabkkapbaibaa.Gram
namespace Go.Proofs.Ytopabkkapbaibaa.Gram
open Go.RowKit Go.Shelf
open Go.Proofs.Ytopabkkapbaibaa.Addr (hiN loN RowAt below2 below_drew below_new bset RowAt.lt RowAt.cell RowAt.frozen RowAt.below RowAt.drew RowAt.new RowAt.alloc cells2 cells4 results_cell)
open Go.Proofs.Ytopabkkapbaibaa.Msg (Ev evV evC getE eget_any zeroE zeroC cells12 results_cell_tmp1)
def ofG (p : PcT) : GtT × Int := if rightP p then (gotG p, 0) else ((zeroE, 0), 2)
set_option maxHeartbeats 4000000 in
theorem of_any (k : Nat) (b : List UInt8) (w : World) (hk : k ≤ 255) (hb : (b.length : Int) ≤ 200000000000000) :
    Calls Try.prog 20 #[pcV (k, b)] w fun e w' => e = .returned (.tuple #[gtV (ofG (k, b)).1, .int .i64 (ofG (k, b)).2]) ∧ Below w.heap.size w w' := by
  have c1 := fun W => right_any k b W hk
  have c2 := fun W => got_any k b W hk hb
  obtain ⟨a, ha⟩ : ∃ a, a = ofG (k, b) := ⟨_, rfl⟩
  have HA : Hid (a = if rightP (k, b) then (gotG (k, b), 0) else ((zeroE, 0), 2)) := ha
  rw [← ha]
  clear ha
  generalize rightP (k, b) = R at *
  generalize gotG (k, b) = G at *
  obtain ⟨⟨ek, er, es, et, ⟨s6, n, ln⟩, ⟨ak, ai⟩, ei, ee⟩, y⟩ := G
  have HEQ : Hid (gtV (⟨ek, er, es, et, ⟨s6, n, ln⟩, ⟨ak, ai⟩, ei, ee⟩, y) = .agg #[.int .u8 (ek : Int), .int .i64 er, .int .u64 (es : Int), .int .i64 et, .bool s6, .int .u64 (hiN n : Int), .int .u64 (loN n : Int), .int .i64 ln, .int .u8 (ak : Int), .int .i64 ai, .int .i64 ei, .int .i64 ee, .int .i64 y]) := rfl
  unfold gtV gtC evC at c2
  simp only [List.cons_append, List.nil_append] at c2
  generalize hh : hiN n = nh at *
  generalize hh2 : loN n = nl at *
  clear hh hh2
  unfold pcV at *
  obtain ⟨X, hX⟩ : ∃ X, X = (w.alloc (.cells #[.int .u8 (k : Int), .string ⟨b.toArray⟩] 70)).alloc (.cells #[.int .u8 0, .int .i64 0, .int .u64 0, .int .i64 0, .bool false, .int .u64 0, .int .u64 0, .int .i64 0, .int .u8 0, .int .i64 0, .int .i64 0, .int .i64 0, .int .i64 0] 52) := ⟨_, rfl⟩
  have hB : Below w.heap.size w X := by rw [hX]; exact below_new (below_new (Below.refl _ _) _) _
  have rx : RowAt X (w.heap.size + 1) [.int .u8 0, .int .i64 0, .int .u64 0, .int .i64 0, .bool false, .int .u64 0, .int .u64 0, .int .i64 0, .int .u8 0, .int .i64 0, .int .i64 0, .int .i64 0, .int .i64 0] 52 := by rw [hX, ← World.size_alloc w (.cells #[.int .u8 (k : Int), .string ⟨b.toArray⟩] 70)]; exact RowAt.new _ _ _
  have rp : RowAt X w.heap.size [.int .u8 (k : Int), .string ⟨b.toArray⟩] 70 := by rw [hX]; exact (RowAt.new _ _ _).alloc _
  go_enter Try.func20, Try.ntmps20
  go_upto_region 1 with fail
  rw [← hX]
  clear hX
  obtain ⟨r0, r1, rf⟩ := cells2 rp
  go_wp2_with fail
  go_at_call 33; refine (c1 _).mono ?_; rintro e w1 ⟨rfl, hb1⟩
  replace rx := RowAt.below rx hb1
  replace rp := RowAt.below rp hb1
  replace hB := below2 hB hb1
  clear hb1 c1 r0 r1 rf
  obtain ⟨r0, r1, rf⟩ := cells2 rp
  cases R
  · have e : a = ((zeroE, 0), 2) := HA.out
    obtain ⟨⟨y0, y1, y2, y3, y4, y5⟩, ⟨y6, y7, y8, y9, y10, y11, y12⟩, yf, yl⟩ := cells13 rx
    clear rx rp HA c2
    go_wp2_with fail
    refine bodyPost_ret (v := .tuple #[.agg #[.int .u8 0, .int .i64 0, .int .u64 0, .int .i64 0, .bool false, .int .u64 0, .int .u64 0, .int .i64 0, .int .u8 0, .int .i64 0, .int .i64 0, .int .i64 0, .int .i64 0], .int .i64 2]) ?_ rfl ⟨by rw [e, gtV_z], ?_⟩
    · rw [results_cell_tmp1 rfl]
      go_simp
    · repeat' (first | with_reducible exact hB | with_reducible refine bset ?_ (by omega))
  · have e : a = ((⟨ek, er, es, et, ⟨s6, n, ln⟩, ⟨ak, ai⟩, ei, ee⟩, y), 0) := HA.out
    clear HA
    go_wp2_with fail
    go_at_call 25; refine (c2 _).mono ?_; rintro e w2 ⟨rfl, hb2⟩
    replace rx := RowAt.below rx hb2
    replace hB := below2 hB hb2
    obtain ⟨⟨y0, y1, y2, y3, y4, y5⟩, ⟨y6, y7, y8, y9, y10, y11, y12⟩, yf, yl⟩ := cells13 rx
    clear rx rp hb2 c2 r0 r1 rf
    go_wp2_with fail
    refine bodyPost_ret (v := .tuple #[.agg #[.int .u8 (ek : Int), .int .i64 er, .int .u64 (es : Int), .int .i64 et, .bool s6, .int .u64 (nh : Int), .int .u64 (nl : Int), .int .i64 ln, .int .u8 (ak : Int), .int .i64 ai, .int .i64 ei, .int .i64 ee, .int .i64 y], .int .i64 0]) ?_ rfl ⟨by rw [e, HEQ.out], ?_⟩
    · rw [results_cell_tmp1 rfl]
      go_simp
    · repeat' (first | with_reducible exact hB | with_reducible refine bset ?_ (by omega))
end Go.Proofs.Ytopabkkapbaibaa.Gram
namespace Go.Proofs.Ytopabkkapbaibaa.Gram
open Go.RowKit
open Go.Proofs.Ytopabkkapbaibaa.Msg (Ev evV evC okE evB checkE FitE eput_any bytes_cat)
open Go.Proofs.Ytopabkkapbaibaa.Addr (RowAt below2 below_drew below_new bset RowAt.lt RowAt.cell RowAt.frozen RowAt.below RowAt.drew RowAt.new RowAt.alloc cells2 cells4)
def fitN (n : Nat) : Bool := decide (1 ≤ n ∧ n ≤ 64)
def wrapL (l : List UInt8) : List UInt8 := [245, 0, UInt8.ofNat l.length] ++ l
theorem isFit_any (n : Nat) (w : World) (h : (n : Int) ≤ 9223372036854775807) : Calls Try.prog 46 #[.int .i64 (n : Int)] w fun e w' => e = .returned (.bool (fitN n)) ∧ w' = w := by
  have HF : Hid (fitN n = decide (1 ≤ n ∧ n ≤ 64)) := rfl
  generalize fitN n = R at HF ⊢
  by_cases h1 : 1 ≤ n
  · have d1 : decide (1 ≤ (n : Int)) = true := by rw [decide_eq_true_iff]; omega
    have HV : Hid (R = decide ((n : Int) ≤ 64)) := by show _ = _; rw [HF.out]; exact decide_eq_decide.2 (by omega)
    clear HF
    go_enter Try.func46, Try.ntmps46
    go_wp2
    go_ret
    exact ⟨by rw [HV.out]; rfl, rfl⟩
  · have d1 : decide (1 ≤ (n : Int)) = false := by rw [decide_eq_false_iff_not]; omega
    have HV : Hid (R = false) := by show _ = _; rw [HF.out, decide_eq_false_iff_not]; omega
    clear HF
    go_enter Try.func46, Try.ntmps46
    go_wp2
    go_ret
    exact ⟨by rw [HV.out]; rfl, rfl⟩
theorem wrap_ok (l : List UInt8) (h : fitN l.length = true) : 1 ≤ l.length ∧ l.length ≤ 64 := by unfold fitN at h; simpa using h
theorem conv3 (W : World) (n : Nat) (x : Int) (t : TypeId) (hn : n ≤ 64) (hx : x = 0) : (convert 56 9 (.slice (some ⟨W.heap.size, 0, none⟩) 3 3)).run Try.prog (W.alloc (.cells #[.int .u8 245, .int .u8 x, .int .u8 (n : Int)] t)) = .ok (.string ⟨#[245, 0, UInt8.ofNat n]⟩) (W.alloc (.cells #[.int .u8 245, .int .u8 x, .int .u8 (n : Int)] t)) := by
  have hr := RowAt.new W [.int .u8 245, .int .u8 x, .int .u8 (n : Int)] t
  subst hx
  refine run_convert_bytes_back (P := Try.prog) _ 56 9 5 ⟨W.heap.size, 0, none⟩ 3 [245, 0, UInt8.ofNat n] Try.underlying56 Try.underlying5 Try.underlying9 (fun j hj => ?_)
  have hj3 : j < 3 := by simpa using hj
  rw [addr_add, Nat.zero_add, hr.cell]
  have h3 : j = 0 ∨ j = 1 ∨ j = 2 := by omega
  rcases h3 with rfl | rfl | rfl
  · rfl
  · rfl
  · show some (Value.int .u8 (n : Int)) = some (Value.int .u8 ((UInt8.ofNat n).toNat : Int))
    rw [UInt8.toNat_ofNat_of_lt' (by show n < 256; omega)]
set_option maxHeartbeats 2000000 in
set_option maxRecDepth 20000 in
theorem wrap_any (l : List UInt8) (w : World) (hl : (l.length : Int) ≤ 140737488351232) :
    Calls Try.prog 27 #[.string ⟨l.toArray⟩] w fun e w' => e = .returned (.tuple #[strV (if fitN l.length then wrapL l else []), .int .i64 (if fitN l.length then 0 else 11)]) ∧ Below w.heap.size w w' := by
  have cf := fun W => isFit_any l.length W (by omega)
  have hF := wrap_ok l
  have HW : Hid (wrapL l = [245, 0, UInt8.ofNat l.length] ++ l) := rfl
  have hcat := bytes_cat [245, 0, UInt8.ofNat l.length] l
  generalize wrapL l = R at HW ⊢
  cases hb : fitN l.length
  · rw [hb] at cf
    clear hF hb hcat
    unfold strV
    go_enter Try.func27, Try.ntmps27
    go_wp2_with fail
    go_at_call 46; refine (cf _).mono ?_; rintro e w1 ⟨rfl, rfl⟩
    go_wp2_with fail
    go_ret2
    exact ⟨rfl, Below.refl _ _⟩
  · rw [hb] at cf
    have h64 := hF hb
    clear hF hb
    unfold strV
    have hi : (l.length : Int) ≤ 64 := by omega
    have hc3 := conv3 w l.length ((l.length : Int) / 256) 97 (by omega) (by omega)
    rw [← HW.out] at hcat
    have hin : l.length ≤ 64 := h64.2
    clear h64 HW
    go_enter Try.func27, Try.ntmps27
    go_wp2_with fail
    go_at_call 46; refine (cf _).mono ?_; rintro e w1 ⟨rfl, rfl⟩
    go_wp2_with fail
    go_ret2
    exact ⟨rfl, below_new (Below.refl _ _) _⟩
def messG (e : Ev) : List UInt8 × Int := if okE e then (if fitN (evB e).length then (wrapL (evB e), 0) else ([], 11)) else ([], 2)
set_option maxHeartbeats 4000000 in
set_option maxRecDepth 20000 in
theorem message_any (e : Ev) (w : World) (hf : FitE e) (hl : okE e = true → (evB e).length ≤ 64) :
    Calls Try.prog 15 #[evV e] w fun r w' => r = .returned (.tuple #[strV (messG e).1, .int .i64 (messG e).2]) ∧ Below w.heap.size w w' := by
  have c1 := fun W => eput_any e W hf
  have c2 := fun (h : okE e = true) W => wrap_any (evB e) W (by have := hl h; omega)
  have hc : checkE e = if okE e = true then 0 else 2 := rfl
  rw [hc] at c1
  obtain ⟨a, ha⟩ : ∃ a, a = messG e := ⟨_, rfl⟩
  have HA : Hid (a = if okE e then (if fitN (evB e).length then (wrapL (evB e), 0) else ([], 11)) else ([], 2)) := ha
  rw [← ha]
  clear ha hc
  unfold strV at *
  generalize fitN (evB e).length = F at *
  generalize wrapL (evB e) = R at *
  generalize evB e = B at *
  clear hl
  cases hk : okE e
  · rw [hk] at c1
    have e1 : a = ([], 2) := by rw [HA.out, hk]; rfl
    subst e1
    simp only [Bool.false_eq_true, if_false] at c1
    clear c2 HA hk
    unfold evV evC at *
    go_enter Try.func15, Try.ntmps15
    go_wp2_with fail
    go_at_call 26; refine (c1 _).mono ?_; rintro r w1 ⟨rfl, hb1⟩
    go_wp2_with fail
    go_ret2
    exact ⟨rfl, below2 (below_new (Below.refl _ _) _) hb1⟩
  · rw [hk] at c1
    have c3 := c2 hk
    have e1 : a = if F then (R, 0) else ([], 11) := by rw [HA.out, hk]; rfl
    simp only [if_true] at c1
    clear c2 HA hk
    unfold evV evC at *
    go_enter Try.func15, Try.ntmps15
    go_wp2_with fail
    go_at_call 26; refine (c1 _).mono ?_; rintro r w1 ⟨rfl, hb1⟩
    go_wp2_with fail
    go_at_call 27; refine (c3 _).mono ?_; rintro r w2 ⟨rfl, hb2⟩
    cases F
    · simp only [Bool.false_eq_true, if_false] at e1 ⊢
      subst e1
      go_wp2_with fail
      go_ret2
      exact ⟨rfl, below2 (below2 (below_new (Below.refl _ _) _) hb1) hb2⟩
    · simp only [if_true] at e1 ⊢
      subst e1
      go_wp2_with fail
      go_ret2
      exact ⟨rfl, below2 (below2 (below_new (Below.refl _ _) _) hb1) hb2⟩
end Go.Proofs.Ytopabkkapbaibaa.Gram
namespace Go.Proofs.Ytopabkkapbaibaa.Gram
open Go.RowKit Go.Shelf
open Go.Proofs.Ytopabkkapbaibaa.Ord (HasEvs HasEvs.keep HasEvs.cell HasRow.slice)
open Go.Proofs.Ytopabkkapbaibaa.Msg (Ev evV evC okE evB checkE FitE eput_any bytes_cat cells12')
open Go.Proofs.Ytopabkkapbaibaa.Addr (hiN loN RowAt below2 below_drew below_new bset RowAt.lt RowAt.cell RowAt.frozen RowAt.below RowAt.drew RowAt.new RowAt.alloc cells2 cells4)
def streamG : List UInt8 → List Ev → List UInt8 × Int
  | acc, [] => (acc, 0)
  | acc, e :: es => if (messG e).2 = 0 then streamG (acc ++ (messG e).1) es else ([], (messG e).2)
theorem stream_step (acc : List UInt8) (es : List Ev) (k : Nat) (hk : k < es.length) : streamG acc (es.drop k) = if (messG es[k]).2 = 0 then streamG (acc ++ (messG es[k]).1) (es.drop (k + 1)) else ([], (messG es[k]).2) := by
  rw [List.drop_eq_getElem_cons hk]; rfl
theorem mess_len (e : Ev) : (messG e).1.length ≤ 67 := by
  unfold messG
  split
  · split
    · rename_i h
      have := wrap_ok _ h
      simp [wrapL]; omega
    · simp
  · simp
theorem strCells_eq (l : List UInt8) : Lib.strCells ⟨l.toArray⟩ = Lib.byteCells l := by simp [Lib.strCells, Lib.byteCells]
theorem byteCells_app (a b : List UInt8) : Lib.byteCells a ++ Lib.byteCells b = Lib.byteCells (a ++ b) := by simp [Lib.byteCells]
theorem isb_new (w : World) : Lib.IsBuilder 58 5 w.heap.size w.heap.size [] (w.alloc (.cells #[.pointer none, .slice none 0 0] 58)) :=
  .inl ⟨Nat.le_refl _, .slice none 0 0, World.alloc_heap_new w _, World.ownsRow_nil _ _ _ _, by simp [Value.ownBlock]⟩
set_option maxHeartbeats 4000000 in
set_option maxRecDepth 20000 in
theorem stream_any (es : List Ev) (v : Value) (w : World) (he : HasEvs w v es) (hf : ∀ e ∈ es, FitE e) (hl : ∀ e ∈ es, okE e = true → (evB e).length ≤ 64) (hm : es.length ≤ 2000000000000) :
    Calls Try.prog 7 #[v] w fun r w' => r = .returned (.tuple #[strV (streamG [] es).1, .int .i64 (streamG [] es).2]) ∧ Below w.heap.size w w' := by
  obtain ⟨o, c, rfl, hc1, hc2⟩ := HasRow.slice he
  have HR : Hid (∀ wr : World, Below w.heap.size w wr → HasEvs wr (.slice o es.length c) es) := fun wr hb => he.keep hb
  obtain ⟨n, hn⟩ : ∃ n, n = es.length := ⟨_, rfl⟩
  have HN : Hid (n = es.length) := hn
  have HF : Hid (∀ e ∈ es, FitE e ∧ (okE e = true → (evB e).length ≤ 64)) := fun e h => ⟨hf e h, hl e h⟩
  rw [← hn] at HR hc1 hm ⊢
  have hni : (n : Int) ≤ 9223372036854775807 := by omega
  obtain ⟨R, hR⟩ : ∃ R, R = streamG [] es := ⟨_, rfl⟩
  have HD : Hid (R = streamG [] (es.drop 0)) := hR
  rw [← hR]
  clear he hf hn hR hl
  unfold strV
  go_enter Try.func7, Try.ntmps7
  go_wp2_with fail
  go_loopw [11] (fun i wr => ∃ (k : Nat) (acc : List UInt8), k ≤ n ∧ i = .int .i64 k ∧ Hid (Lib.IsBuilder 58 5 w.heap.size w.heap.size (Lib.byteCells acc) wr) ∧ Below w.heap.size w wr ∧ Hid (R = streamG acc (es.drop k)) ∧ Hid (acc.length ≤ 67 * k)) (fun i _ => n - (intOf i).toNat)
  case atStart => exact ⟨0, [], by omega, rfl, (isb_new w : Lib.IsBuilder _ _ _ _ _ _), (Below.refl _ w).alloc (Nat.le_refl _) _, HD, by show _ ≤ _; simp⟩
  case round =>
    obtain ⟨k, acc, hk, rfl, HI, hB, HG, HL⟩ := hrel
    have hh := HR.out _ hB
    have hsz := hB.size
    by_cases hlt : k < n
    · have hkz : k < es.length := by rw [← HN.out]; exact hlt
      obtain ⟨g1, i1, rfl, hg1, a0, a1, a2, a3, a4, a5, a6, a7, a8, a9, a10, a11⟩ := HasEvs.cell hh k hkz
      have hfe := HF.out es[k] (List.getElem_mem hkz)
      have HB1 : Hid ((messG es[k]).2 = 0 → R = streamG (acc ++ (messG es[k]).1) (es.drop (k + 1))) := fun e => by rw [HG.out, stream_step acc es k hkz, if_pos e]
      have HB2 : Hid ((messG es[k]).2 ≠ 0 → R = ([], (messG es[k]).2)) := fun e => by rw [HG.out, stream_step acc es k hkz, if_neg e]
      have hml := mess_len es[k]
      have hki : (k : Int) < (n : Int) := by omega
      obtain ⟨e0, he0⟩ : ∃ e0 : Ev, e0 = es[k] := ⟨_, rfl⟩
      rw [← he0] at a0 a1 a2 a3 a4 a5 a6 a7 a8 a9 a10 a11 HB1 HB2 hfe hml
      clear he0 HG hg1
      go_upto_region 5 with fail
      obtain ⟨X, hX⟩ : ∃ X, X = wr.alloc (.cells #[.int .u8 (e0.kind : Int), .int .i64 e0.router, .int .u64 (e0.seq : Int), .int .i64 e0.time, .bool e0.pf.six, .int .u64 (hiN e0.pf.n : Int), .int .u64 (loN e0.pf.n : Int), .int .i64 e0.pf.len, .int .u8 (e0.act.k : Int), .int .i64 e0.act.i, .int .i64 e0.iface, .int .i64 e0.peer] 50) := ⟨_, rfl⟩
      have hbX : Below wr.heap.size wr X := by rw [hX]; exact below_new (Below.refl _ _) _
      have r0 : RowAt X wr.heap.size [.int .u8 (e0.kind : Int), .int .i64 e0.router, .int .u64 (e0.seq : Int), .int .i64 e0.time, .bool e0.pf.six, .int .u64 (hiN e0.pf.n : Int), .int .u64 (loN e0.pf.n : Int), .int .i64 e0.pf.len, .int .u8 (e0.act.k : Int), .int .i64 e0.act.i, .int .i64 e0.iface, .int .i64 e0.peer] 50 := by rw [hX]; exact RowAt.new _ _ _
      rw [← hX]
      have hBX := below2 hB hbX
      have cn := fun W => message_any e0 W hfe.1 hfe.2
      unfold evV evC strV at cn
      clear hX a0 a1 a2 a3 a4 a5 a6 a7 a8 a9 a10 a11 hh
      obtain ⟨gs, hgs⟩ : ∃ g, g = wr.heap.size := ⟨_, rfl⟩
      have HI1 := isb_below HI.out hbX
      rw [← hgs] at r0 ⊢
      clear hgs hbX
      obtain ⟨⟨y0, y1, y2, y3, y4, y5⟩, ⟨y6, y7, y8, y9, y10, y11⟩, yf, hly⟩ := cells12' r0
      have HI2 : Hid (Lib.IsBuilder 58 5 w.heap.size w.heap.size (Lib.byteCells acc) X) := HI1
      clear HI1 HI
      go_wp2_with fail
      go_at_call 15; refine (cn _).mono ?_; rintro e w2 ⟨rfl, hb2⟩
      have hW := below2 hBX hb2
      have hI3 := isb_below HI2.out hb2
      have HI3 : Hid (Lib.IsBuilder 58 5 w.heap.size w.heap.size (Lib.byteCells acc) w2) := hI3
      have hs2 := hW.size
      clear cn hb2 hBX y0 y1 y2 y3 y4 y5 y6 y7 y8 y9 y10 y11 yf hly r0 hfe HI2 hI3
      generalize messG e0 = M at *
      obtain ⟨fr, y⟩ := M
      simp only at HB1 HB2 hml ⊢
      have HM : Hid (fr.length ≤ 67) := hml
      clear hml
      by_cases hy : y = 0
      · subst hy
        have HB := HB1.out rfl
        have HB3 : Hid (R = streamG (acc ++ fr) (es.drop (k + 1))) := HB
        clear HB HB1 HB2
        go_wp2_with fail
        go_at_call 16
        refine (writeString_any w.heap.size w.heap.size _ ⟨fr.toArray⟩ w2 HI3.out (by rw [Lib.byteCells_length]; show _ + fr.toArray.size ≤ _; have := HL.out; have := HM.out; simp; omega) (by omega)).mono ?_
        rintro e w4 ⟨rfl, hI4, hb4⟩
        rw [strCells_eq, byteCells_app] at hI4
        have HI4 : Hid (Lib.IsBuilder 58 5 w.heap.size w.heap.size (Lib.byteCells (acc ++ fr)) w4) := hI4
        clear hI4
        go_wp2
        go_roundw
        case rel => exact ⟨k + 1, acc ++ fr, by omega, by go_num, HI4, hW.trans hb4, HB3, by show _ ≤ _; have := HL.out; have := HM.out; rw [List.length_append]; omega⟩
        case measure => simp [intOf]; omega
      · have ny : (y != 0) = true := by simpa using hy
        have HB := HB2.out hy
        clear HB1 HB2
        go_wp2_with fail
        go_ret2
        exact ⟨by rw [HB]; rfl, hW⟩
    · obtain rfl : k = n := by omega
      have HE : Hid (R = (acc, 0)) := by show _ = _; rw [HG.out, HN.out, List.drop_length]; rfl
      go_wp2_with fail
      go_at_call 17
      refine (Try.Builder_String_any w.heap.size w.heap.size _ wr HI.out hsz).mono ?_
      rintro e w5 ⟨rfl, hb5⟩
      go_wp2
      go_ret2
      exact ⟨by rw [HE.out]; rfl, hB.trans hb5⟩
end Go.Proofs.Ytopabkkapbaibaa.Gram
namespace Go.Proofs.Ytopabkkapbaibaa.Gram
open Go.Proofs.Ytopabkkapbaibaa.Msg (Ev evV evC okE evB restB restB_le okE_bd checkE FitE getE firstP rdE rdE_put zeroE ofNat_byte)

theorem get_put (e : Ev) (h : okE e = true) : getE (evB e) = (e, 0) := by
  have h1 := rdE_put e [] h
  rw [List.append_nil] at h1
  have h2 : firstP rdE okE zeroE (evB e) = (e, [], 0) := by
    unfold firstP
    rw [h1]
    simp only
    rw [if_pos h]
  unfold getE
  rw [h2]
  rfl
theorem putL_pos (n : Nat) : 1 ≤ (putL n).length := List.length_pos_iff.2 (putL_ne n)
theorem evB_len (e : Ev) (h : okE e = true) : 4 ≤ (evB e).length ∧ (evB e).length ≤ 64 := by
  have h1 := restB_le e h
  have p1 := putL_pos e.router.toNat
  have p2 := putL_pos e.seq
  have p3 := putL_pos e.time.toNat
  obtain ⟨⟨hk, hr, hs, ht⟩, _, _⟩ := okE_bd h
  have q1 := putL_le e.router.toNat (by omega)
  have q2 := putL_le e.seq (by omega)
  have q3 := putL_le e.time.toNat (by omega)
  unfold evB
  simp only [List.length_append, List.length_cons, List.length_nil]
  omega
theorem first_wrap (b t : List UInt8) (h1 : 1 ≤ b.length) (h2 : b.length ≤ 64) : firstG (wrapL b ++ t) = ((1, b), t) := by
  have h3 : (UInt8.ofNat b.length).toNat = b.length := ofNat_byte _ (by omega)
  have h4 : (0 : UInt8).toNat = 0 := rfl
  show firstG (245 :: 0 :: UInt8.ofNat b.length :: (b ++ t)) = _
  unfold firstG
  simp only [if_true]
  unfold msgG
  simp only [h3, h4, Nat.zero_mul, Nat.zero_add]
  rw [if_neg (by omega), if_neg (by rw [List.length_append]; omega), List.take_left, List.drop_left]
theorem pieces_wrap (b t : List UInt8) (h1 : 1 ≤ b.length) (h2 : b.length ≤ 64) : piecesL (wrapL b ++ t) = (1, b) :: piecesL t := by
  rw [pieces_step _ (by simp [wrapL]), first_wrap b t h1 h2]
  rfl
def wraps (es : List Ev) : List UInt8 := es.flatMap (fun e => wrapL (evB e))
theorem mess_ok (e : Ev) (h : okE e = true) : messG e = (wrapL (evB e), 0) := by
  have h2 := evB_len e h
  unfold messG
  rw [if_pos h, if_pos (by unfold fitN; exact decide_eq_true ⟨by omega, by omega⟩)]
theorem mess_no (e : Ev) (h : okE e = false) : messG e = ([], 2) := by
  unfold messG
  rw [h]
  rfl
theorem stream_ok (es : List Ev) : ∀ acc : List UInt8, (∀ e ∈ es, okE e = true) → streamG acc es = (acc ++ wraps es, 0) := by
  induction es with
  | nil => intro acc _; simp [streamG, wraps]
  | cons e es ih =>
    intro acc h
    unfold streamG
    rw [mess_ok e (h e (by simp)), if_pos rfl, ih _ (fun x hx => h x (by simp [hx]))]
    simp [wraps]
theorem stream_no (es : List Ev) : ∀ acc : List UInt8, ¬ (∀ e ∈ es, okE e = true) → streamG acc es = ([], 2) := by
  induction es with
  | nil => intro acc h; exact absurd (by simp) h
  | cons e es ih =>
    intro acc h
    unfold streamG
    cases ho : okE e with
    | false => rw [mess_no e ho]; rfl
    | true =>
      rw [mess_ok e ho, if_pos rfl]
      refine ih _ (fun h2 => h (fun x hx => ?_))
      rcases List.mem_cons.1 hx with rfl | hx
      · exact ho
      · exact h2 x hx
theorem pieces_wraps (es : List Ev) (t : List UInt8) (h : ∀ e ∈ es, okE e = true) : piecesL (wraps es ++ t) = es.map (fun e => ((1, evB e) : PcT)) ++ piecesL t := by
  induction es with
  | nil => rfl
  | cons e es ih =>
    have h2 := evB_len e (h e (by simp))
    show piecesL ((wrapL (evB e) ++ wraps es) ++ t) = _
    rw [List.append_assoc, pieces_wrap _ _ (by omega) h2.2, ih (fun x hx => h x (by simp [hx]))]
    rfl
theorem got_ev (e : Ev) (h : okE e = true) : gotG (1, evB e) = (e, 0) := by
  unfold gotG
  rw [if_neg (show ¬ ((1 : Nat) = 2) by decide), if_neg (show ¬ ((1 : Nat) = 3) by decide)]
  rw [get_put e h]
  rfl
theorem gots_wraps (es : List Ev) (t : List UInt8) (h : ∀ e ∈ es, okE e = true) : (piecesL (wraps es ++ t)).map gotG = es.map (fun e => ((e, 0) : GtT)) ++ (piecesL t).map gotG := by
  rw [pieces_wraps es t h, List.map_append, List.map_map]
  congr 1
  exact List.map_congr_left (fun e he => got_ev e (h e he))
theorem piecesF_le (f : Nat) : ∀ s : List UInt8, (piecesF f s).length ≤ f := by
  induction f with
  | zero => intro s; exact Nat.le_refl _
  | succ f ih =>
    intro s
    unfold piecesF
    split
    · exact Nat.zero_le _
    · have := ih (firstG s).2
      rw [List.length_append]
      split
      · simp only [List.length_nil]; omega
      · simp only [List.length_cons, List.length_nil]; omega
theorem pieces_le (s : List UInt8) : (piecesL s).length ≤ s.length := piecesF_le _ s
theorem wraps_len (es : List Ev) (h : ∀ e ∈ es, okE e = true) : (wraps es).length ≤ es.length * 67 := by
  induction es with
  | nil => simp [wraps]
  | cons e es ih =>
    have h2 := evB_len e (h e (by simp))
    have h3 := ih (fun x hx => h x (by simp [hx]))
    show (wrapL (evB e) ++ wraps es).length ≤ _
    rw [List.length_append, List.length_cons]
    have : (wrapL (evB e)).length = 3 + (evB e).length := by simp [wrapL]; omega
    omega
theorem noM_noise (s t : List UInt8) (h : ∀ b ∈ s, b ≠ 245) (ht : t = [] ∨ ∃ r, t = 245 :: r) : noM (s ++ t) = t := by
  induction s with
  | nil =>
    rcases ht with rfl | ⟨r, rfl⟩
    · rfl
    · unfold noM; simp
  | cons b s ih =>
    have hb := h b (by simp)
    have h2 := ih (fun x hx => h x (by simp [hx]))
    unfold noM at h2 ⊢
    rw [List.cons_append, List.dropWhile_cons_of_pos (by simpa using hb)]
    exact h2
theorem pieces_noise (s t : List UInt8) (hn : s ≠ []) (h : ∀ b ∈ s, b ≠ 245) (ht : t = [] ∨ ∃ r, t = 245 :: r) : piecesL (s ++ t) = (2, []) :: piecesL t := by
  obtain ⟨b, s, rfl⟩ := List.exists_cons_of_ne_nil hn
  have hb := h b (by simp)
  rw [pieces_step _ (by simp)]
  have h1 : firstG (b :: s ++ t) = ((2, []), t) := by
    show firstG (b :: (s ++ t)) = _
    unfold firstG
    simp only
    rw [if_neg hb, noM_noise s t (fun x hx => h x (by simp [hx])) ht]
  rw [h1]
  rfl
theorem wraps_head (es : List Ev) : wraps es = [] ∨ ∃ r, wraps es = 245 :: r := by
  cases es with
  | nil => exact .inl rfl
  | cons e es => exact .inr ⟨0 :: UInt8.ofNat (evB e).length :: (evB e ++ wraps es), by simp [wraps, wrapL]⟩
theorem got_bad : gotG (2, []) = (zeroE, 7) := rfl
end Go.Proofs.Ytopabkkapbaibaa.Gram
namespace Go.Proofs.Ytopabkkapbaibaa.Gram
open Go.RowKit Go.Shelf
open Go.Proofs.Ytopabkkapbaibaa.Ord (HasRow hasRow_nil hasRow_own HasRow.keep HasRow.slice HasRow.at)
open Go.Proofs.Ytopabkkapbaibaa.Msg (Ev evV evC getE zeroE zeroC)
open Go.Proofs.Ytopabkkapbaibaa.Addr (hiN loN RowAt below2 below_drew below_new RowAt.lt RowAt.cell RowAt.frozen RowAt.below RowAt.drew RowAt.new RowAt.alloc)
attribute [-go_sem] Builtin.append_

def HasPcs (W : World) (v : Value) (l : List PcT) : Prop := HasRow W v 2 l.length (pcCs l)
def HasGts (W : World) (v : Value) (l : List GtT) : Prop := HasRow W v 13 l.length (gtCs l)
theorem HasPcs.keep {W W' : World} {v : Value} {l : List PcT} (h : HasPcs W v l) (hb : Below W.heap.size W W') : HasPcs W' v l := HasRow.keep h hb
theorem HasGts.keep {W W' : World} {v : Value} {l : List GtT} (h : HasGts W v l) (hb : Below W.heap.size W W') : HasGts W' v l := HasRow.keep h hb
theorem pcCs_len (l : List PcT) : (pcCs l).length = l.length * 2 := by
  induction l with
  | nil => rfl
  | cons s l ih =>
    show (pcC s ++ pcCs l).length = _
    rw [List.length_append, ih, List.length_cons]
    show 2 + _ = _
    omega
theorem gtCs_len (l : List GtT) : (gtCs l).length = l.length * 13 := by
  induction l with
  | nil => rfl
  | cons s l ih =>
    show (gtC s ++ gtCs l).length = _
    rw [List.length_append, ih, List.length_cons]
    show 13 + _ = _
    omega
theorem pcCs_at (ps : List PcT) : ∀ j (h : j < ps.length), (pcCs ps)[2 * j]? = some (.int .u8 (ps[j].1 : Int)) ∧ (pcCs ps)[2 * j + 1]? = some (strV ps[j].2) := by
  induction ps with
  | nil => intro j h; simp at h
  | cons p ps ih =>
    intro j h
    cases j with
    | zero => exact ⟨rfl, rfl⟩
    | succ j =>
      have := ih j (by simpa using h)
      rw [show pcCs (p :: ps) = .int .u8 (p.1 : Int) :: strV p.2 :: pcCs ps from rfl, show 2 * (j + 1) = 2 * j + 1 + 1 by omega]
      simp only [List.getElem?_cons_succ, List.getElem_cons_succ]
      exact this
theorem HasPcs.cell {W : World} {o : Option Addr} {m cap : Nat} {ps : List PcT} (h : HasPcs W (.slice o m cap) ps) (j : Nat) (hj : j < ps.length) : ∃ b i, o = some ⟨b, i, none⟩ ∧ b < W.heap.size ∧ W.cell? ⟨b, i + j * 2, none⟩ = some (.int .u8 (ps[j].1 : Int)) ∧ W.cell? ⟨b, i + j * 2 + 1, none⟩ = some (strV ps[j].2) := by
  obtain ⟨_, b, i, e, hb, hc⟩ := HasRow.at h (by omega)
  have h2 := pcCs_at ps j hj
  exact ⟨b, i, e, hb, by rw [hc (j * 2) (by omega), Nat.mul_comm]; exact h2.1, by rw [Nat.add_assoc, hc (j * 2 + 1) (by omega), Nat.mul_comm]; exact h2.2⟩
theorem gtCs_at (l : List GtT) : ∀ j (h : j < l.length), (gtCs l)[13 * j]? = some (.int .u8 (l[j].1.kind : Int)) ∧ (gtCs l)[13 * j + 1]? = some (.int .i64 l[j].1.router) ∧ (gtCs l)[13 * j + 2]? = some (.int .u64 (l[j].1.seq : Int)) ∧ (gtCs l)[13 * j + 3]? = some (.int .i64 l[j].1.time) ∧ (gtCs l)[13 * j + 4]? = some (.bool l[j].1.pf.six) ∧ (gtCs l)[13 * j + 5]? = some (.int .u64 (hiN l[j].1.pf.n : Int)) ∧ (gtCs l)[13 * j + 6]? = some (.int .u64 (loN l[j].1.pf.n : Int)) ∧ (gtCs l)[13 * j + 7]? = some (.int .i64 l[j].1.pf.len) ∧ (gtCs l)[13 * j + 8]? = some (.int .u8 (l[j].1.act.k : Int)) ∧ (gtCs l)[13 * j + 9]? = some (.int .i64 l[j].1.act.i) ∧ (gtCs l)[13 * j + 10]? = some (.int .i64 l[j].1.iface) ∧ (gtCs l)[13 * j + 11]? = some (.int .i64 l[j].1.peer) ∧ (gtCs l)[13 * j + 12]? = some (.int .i64 l[j].2) := by
  induction l with
  | nil => intro j h; simp at h
  | cons p ps ih =>
    intro j h
    cases j with
    | zero => exact ⟨rfl, rfl, rfl, rfl, rfl, rfl, rfl, rfl, rfl, rfl, rfl, rfl, rfl⟩
    | succ j =>
      have := ih j (by simpa using h)
      rw [show gtCs (p :: ps) = .int .u8 (p.1.kind : Int) :: .int .i64 p.1.router :: .int .u64 (p.1.seq : Int) :: .int .i64 p.1.time :: .bool p.1.pf.six :: .int .u64 (hiN p.1.pf.n : Int) :: .int .u64 (loN p.1.pf.n : Int) :: .int .i64 p.1.pf.len :: .int .u8 (p.1.act.k : Int) :: .int .i64 p.1.act.i :: .int .i64 p.1.iface :: .int .i64 p.1.peer :: .int .i64 p.2 :: gtCs ps from rfl, show 13 * (j + 1) = 13 * j + 1 + 1 + 1 + 1 + 1 + 1 + 1 + 1 + 1 + 1 + 1 + 1 + 1 by omega]
      simp only [List.getElem?_cons_succ, List.getElem_cons_succ]
      exact this
theorem HasGts.cell {W : World} {o : Option Addr} {m cap : Nat} {l : List GtT} (h : HasGts W (.slice o m cap) l) (j : Nat) (hj : j < l.length) : ∃ b i, o = some ⟨b, i, none⟩ ∧ b < W.heap.size ∧ W.cell? ⟨b, i + j * 13, none⟩ = some (.int .u8 (l[j].1.kind : Int)) ∧ W.cell? ⟨b, i + j * 13 + 1, none⟩ = some (.int .i64 l[j].1.router) ∧ W.cell? ⟨b, i + j * 13 + 2, none⟩ = some (.int .u64 (l[j].1.seq : Int)) ∧ W.cell? ⟨b, i + j * 13 + 3, none⟩ = some (.int .i64 l[j].1.time) ∧ W.cell? ⟨b, i + j * 13 + 4, none⟩ = some (.bool l[j].1.pf.six) ∧ W.cell? ⟨b, i + j * 13 + 5, none⟩ = some (.int .u64 (hiN l[j].1.pf.n : Int)) ∧ W.cell? ⟨b, i + j * 13 + 6, none⟩ = some (.int .u64 (loN l[j].1.pf.n : Int)) ∧ W.cell? ⟨b, i + j * 13 + 7, none⟩ = some (.int .i64 l[j].1.pf.len) ∧ W.cell? ⟨b, i + j * 13 + 8, none⟩ = some (.int .u8 (l[j].1.act.k : Int)) ∧ W.cell? ⟨b, i + j * 13 + 9, none⟩ = some (.int .i64 l[j].1.act.i) ∧ W.cell? ⟨b, i + j * 13 + 10, none⟩ = some (.int .i64 l[j].1.iface) ∧ W.cell? ⟨b, i + j * 13 + 11, none⟩ = some (.int .i64 l[j].1.peer) ∧ W.cell? ⟨b, i + j * 13 + 12, none⟩ = some (.int .i64 l[j].2) := by
  obtain ⟨_, b, i, e, hb, hc⟩ := HasRow.at h (by omega)
  obtain ⟨h0, h1, h2, h3, h4, h5, h6, h7, h8, h9, h10, h11, h12⟩ := gtCs_at l j hj
  refine ⟨b, i, e, hb, ?_, ?_, ?_, ?_, ?_, ?_, ?_, ?_, ?_, ?_, ?_, ?_, ?_⟩
  · rw [hc (j * 13) (by omega), Nat.mul_comm]; exact h0
  · rw [Nat.add_assoc, hc (j * 13 + 1) (by omega), Nat.mul_comm]; exact h1
  · rw [Nat.add_assoc, hc (j * 13 + 2) (by omega), Nat.mul_comm]; exact h2
  · rw [Nat.add_assoc, hc (j * 13 + 3) (by omega), Nat.mul_comm]; exact h3
  · rw [Nat.add_assoc, hc (j * 13 + 4) (by omega), Nat.mul_comm]; exact h4
  · rw [Nat.add_assoc, hc (j * 13 + 5) (by omega), Nat.mul_comm]; exact h5
  · rw [Nat.add_assoc, hc (j * 13 + 6) (by omega), Nat.mul_comm]; exact h6
  · rw [Nat.add_assoc, hc (j * 13 + 7) (by omega), Nat.mul_comm]; exact h7
  · rw [Nat.add_assoc, hc (j * 13 + 8) (by omega), Nat.mul_comm]; exact h8
  · rw [Nat.add_assoc, hc (j * 13 + 9) (by omega), Nat.mul_comm]; exact h9
  · rw [Nat.add_assoc, hc (j * 13 + 10) (by omega), Nat.mul_comm]; exact h10
  · rw [Nat.add_assoc, hc (j * 13 + 11) (by omega), Nat.mul_comm]; exact h11
  · rw [Nat.add_assoc, hc (j * 13 + 12) (by omega), Nat.mul_comm]; exact h12
theorem pc_neq (k : Int) (B : ByteArray) (w : World) : (binOp .neq 70 (.agg #[.int .u8 k, .string B]) (.agg #[.int .u8 k, .string B])).run Try.prog w = .ok (.bool false) w := by
  have u0 := Try.underlying68
  have a0 := Try.isAgg68
  have z0 := Try.sizeOf68
  have u1 := Try.underlying9
  have a1 := Try.isAgg9
  have z1 := Try.sizeOf9
  have hS : Try.prog.underlying 70 = some (.struct (Try.prog.fieldsOf 70)) := by kernel_rfl
  have hp : Try.prog.stoodInHeld 70 = false := by kernel_rfl
  rw [run_neq_struct, show (10000 : Nat) = 9999 + 1 from rfl, run_equalIn_agg w 9999 70 _ _ hS hp]
  simp only [Program.fieldsOf, Try.underlying70]
  go_simp
theorem pc_guard : Try.prog.eqGuardType Try.prog.depth 70 = false := by kernel_rfl
theorem ad_inS (x y : Int) (w : World) (f : Nat) : (Op.equalIn (f + 2) 43 (.agg #[.int .u64 x, .int .u64 y]) (.agg #[.int .u64 x, .int .u64 y])).run Try.prog w = .ok true w := by
  have u0 := Try.underlying41
  have a0 := Try.isAgg41
  have z0 := Try.sizeOf41

  have hS : Try.prog.underlying 43 = some (.struct (Try.prog.fieldsOf 43)) := by kernel_rfl
  have hp : Try.prog.stoodInHeld 43 = false := by kernel_rfl

  rw [show f + 2 = (f + 1) + 1 from rfl, run_equalIn_agg w (f + 1) 43 _ _ hS hp]
  simp only [Program.fieldsOf, Try.underlying43]
  go_simp
theorem ac_inS (x y : Int) (w : World) (f : Nat) : (Op.equalIn (f + 2) 48 (.agg #[.int .u8 x, .int .i64 y]) (.agg #[.int .u8 x, .int .i64 y])).run Try.prog w = .ok true w := by
  have u0 := Try.underlying46
  have a0 := Try.isAgg46
  have z0 := Try.sizeOf46
  have u1 := Try.underlying3
  have a1 := Try.isAgg3
  have z1 := Try.sizeOf3

  have hS : Try.prog.underlying 48 = some (.struct (Try.prog.fieldsOf 48)) := by kernel_rfl
  have hp : Try.prog.stoodInHeld 48 = false := by kernel_rfl

  rw [show f + 2 = (f + 1) + 1 from rfl, run_equalIn_agg w (f + 1) 48 _ _ hS hp]
  simp only [Program.fieldsOf, Try.underlying48]
  go_simp
theorem pf_inS (s : Bool) (x y z : Int) (w : World) (f : Nat) : (Op.equalIn (f + 3) 45 (.agg #[.bool s, .int .u64 x, .int .u64 y, .int .i64 z]) (.agg #[.bool s, .int .u64 x, .int .u64 y, .int .i64 z])).run Try.prog w = .ok true w := by
  have u0 := Try.underlying4
  have a0 := Try.isAgg4
  have z0 := Try.sizeOf4
  have u1 := Try.underlying3
  have a1 := Try.isAgg3
  have z1 := Try.sizeOf3
  have b0 := Try.isAgg43
  have y0 := Try.sizeOf43
  have hS : Try.prog.underlying 45 = some (.struct (Try.prog.fieldsOf 45)) := by kernel_rfl
  have hp : Try.prog.stoodInHeld 45 = false := by kernel_rfl
  have h0 := fun w => ad_inS x y w f
  rw [show f + 3 = (f + 2) + 1 from rfl, run_equalIn_agg w (f + 2) 45 _ _ hS hp]
  simp only [Program.fieldsOf, Try.underlying45]
  go_simp
set_option maxHeartbeats 1000000 in
theorem ev_inS (x0 : Int) (x1 : Int) (x2 : Int) (x3 : Int) (x4 : Bool) (x5 : Int) (x6 : Int) (x7 : Int) (x8 : Int) (x9 : Int) (x10 : Int) (x11 : Int) (w : World) (f : Nat) : (Op.equalIn (f + 4) 50 (.agg #[.int .u8 x0, .int .i64 x1, .int .u64 x2, .int .i64 x3, .bool x4, .int .u64 x5, .int .u64 x6, .int .i64 x7, .int .u8 x8, .int .i64 x9, .int .i64 x10, .int .i64 x11]) (.agg #[.int .u8 x0, .int .i64 x1, .int .u64 x2, .int .i64 x3, .bool x4, .int .u64 x5, .int .u64 x6, .int .i64 x7, .int .u8 x8, .int .i64 x9, .int .i64 x10, .int .i64 x11])).run Try.prog w = .ok true w := by
  have u0 := Try.underlying40
  have a0 := Try.isAgg40
  have z0 := Try.sizeOf40
  have u1 := Try.underlying3
  have a1 := Try.isAgg3
  have z1 := Try.sizeOf3
  have u2 := Try.underlying41
  have a2 := Try.isAgg41
  have z2 := Try.sizeOf41
  have u3 := Try.underlying2
  have a3 := Try.isAgg2
  have z3 := Try.sizeOf2
  have b0 := Try.isAgg45
  have y0 := Try.sizeOf45
  have b1 := Try.isAgg48
  have y1 := Try.sizeOf48
  have hS : Try.prog.underlying 50 = some (.struct (Try.prog.fieldsOf 50)) := by kernel_rfl
  have hp : Try.prog.stoodInHeld 50 = false := by kernel_rfl
  have h0 := fun w => pf_inS x4 x5 x6 x7 w f
  have h1 := fun w => ac_inS x8 x9 w (f + 1)
  rw [show f + 4 = (f + 3) + 1 from rfl, run_equalIn_agg w (f + 3) 50 _ _ hS hp]
  simp only [Program.fieldsOf, Try.underlying50]
  go_simp
theorem gt_inS (x0 : Int) (x1 : Int) (x2 : Int) (x3 : Int) (x4 : Bool) (x5 : Int) (x6 : Int) (x7 : Int) (x8 : Int) (x9 : Int) (x10 : Int) (x11 : Int) (x12 : Int) (w : World) (f : Nat) : (Op.equalIn (f + 5) 52 (.agg #[.int .u8 x0, .int .i64 x1, .int .u64 x2, .int .i64 x3, .bool x4, .int .u64 x5, .int .u64 x6, .int .i64 x7, .int .u8 x8, .int .i64 x9, .int .i64 x10, .int .i64 x11, .int .i64 x12]) (.agg #[.int .u8 x0, .int .i64 x1, .int .u64 x2, .int .i64 x3, .bool x4, .int .u64 x5, .int .u64 x6, .int .i64 x7, .int .u8 x8, .int .i64 x9, .int .i64 x10, .int .i64 x11, .int .i64 x12])).run Try.prog w = .ok true w := by
  have u0 := Try.underlying23
  have a0 := Try.isAgg23
  have z0 := Try.sizeOf23
  have b0 := Try.isAgg50
  have y0 := Try.sizeOf50
  have hS : Try.prog.underlying 52 = some (.struct (Try.prog.fieldsOf 52)) := by kernel_rfl
  have hp : Try.prog.stoodInHeld 52 = false := by kernel_rfl
  have h0 := fun w => ev_inS x0 x1 x2 x3 x4 x5 x6 x7 x8 x9 x10 x11 w f
  rw [show f + 5 = (f + 4) + 1 from rfl, run_equalIn_agg w (f + 4) 52 _ _ hS hp]
  simp only [Program.fieldsOf, Try.underlying52]
  go_simp
theorem gt_neq (x0 : Int) (x1 : Int) (x2 : Int) (x3 : Int) (x4 : Bool) (x5 : Int) (x6 : Int) (x7 : Int) (x8 : Int) (x9 : Int) (x10 : Int) (x11 : Int) (x12 : Int) (w : World) : (binOp .neq 52 (.agg #[.int .u8 x0, .int .i64 x1, .int .u64 x2, .int .i64 x3, .bool x4, .int .u64 x5, .int .u64 x6, .int .i64 x7, .int .u8 x8, .int .i64 x9, .int .i64 x10, .int .i64 x11, .int .i64 x12]) (.agg #[.int .u8 x0, .int .i64 x1, .int .u64 x2, .int .i64 x3, .bool x4, .int .u64 x5, .int .u64 x6, .int .i64 x7, .int .u8 x8, .int .i64 x9, .int .i64 x10, .int .i64 x11, .int .i64 x12])).run Try.prog w = .ok (.bool false) w := by
  rw [run_neq_struct]
  have h := gt_inS x0 x1 x2 x3 x4 x5 x6 x7 x8 x9 x10 x11 x12 w 9995
  rw [show (9995 + 5 : Nat) = 10000 from rfl] at h
  rw [h]
  rfl
theorem gt_eql (x0 : Int) (x1 : Int) (x2 : Int) (x3 : Int) (x4 : Bool) (x5 : Int) (x6 : Int) (x7 : Int) (x8 : Int) (x9 : Int) (x10 : Int) (x11 : Int) (x12 : Int) (w : World) : (binOp .eql 52 (.agg #[.int .u8 x0, .int .i64 x1, .int .u64 x2, .int .i64 x3, .bool x4, .int .u64 x5, .int .u64 x6, .int .i64 x7, .int .u8 x8, .int .i64 x9, .int .i64 x10, .int .i64 x11, .int .i64 x12]) (.agg #[.int .u8 x0, .int .i64 x1, .int .u64 x2, .int .i64 x3, .bool x4, .int .u64 x5, .int .u64 x6, .int .i64 x7, .int .u8 x8, .int .i64 x9, .int .i64 x10, .int .i64 x11, .int .i64 x12])).run Try.prog w = .ok (.bool true) w := by
  rw [run_eql_struct]
  have h := gt_inS x0 x1 x2 x3 x4 x5 x6 x7 x8 x9 x10 x11 x12 w 9995
  rw [show (9995 + 5 : Nat) = 10000 from rfl] at h
  rw [h]
  rfl
theorem gt_guard : Try.prog.eqGuardType Try.prog.depth 52 = false := by kernel_rfl
theorem below_drewN {B : Nat} {w0 w : World} (h : Below B w0 w) (n : Nat) : Below B w0 (w.drewN n) := h.trans ⟨rfl, rfl, rfl, Nat.le_refl _, fun _ _ => rfl⟩
set_option maxHeartbeats 2000000 in
set_option maxRecDepth 20000 in
theorem same12_any (l : List PcT) (v u : Value) (w : World) (h1 : HasPcs w v l) (h2 : HasPcs w u l) :
    Calls Try.prog 11 #[v, u] w fun e w' => e = .returned (.bool true) ∧ Below w.heap.size w w' := by
  obtain ⟨o1, c1, rfl, hq1, hq2⟩ := HasRow.slice h1
  obtain ⟨o2, c2, rfl, _, _⟩ := HasRow.slice h2
  have HR : Hid (∀ wr : World, Below w.heap.size w wr → HasPcs wr (.slice o1 l.length c1) l ∧ HasPcs wr (.slice o2 l.length c2) l) := fun wr hb => ⟨h1.keep hb, h2.keep hb⟩
  obtain ⟨n, hn⟩ : ∃ n, n = l.length := ⟨_, rfl⟩
  have HN : Hid (n = l.length) := hn
  rw [← hn] at HR hq1 ⊢
  have hni : (n : Int) ≤ 9223372036854775807 := by omega
  have hneq := pc_neq
  have hgd := pc_guard
  have hnn : ((n : Int) != (n : Int)) = false := by simp
  clear h1 h2 hn hq1 hq2
  go_enter Try.func11, Try.ntmps11
  go_wp2_with fail
  go_loopw [13] (fun i wr => ∃ k : Nat, k ≤ n ∧ i = .int .i64 k ∧ Below w.heap.size w wr) (fun i _ => n - (intOf i).toNat)
  case atStart => exact ⟨0, by omega, rfl, Below.refl _ _⟩
  case round =>
    obtain ⟨k, hk, rfl, hB⟩ := hrel
    obtain ⟨ha, hb⟩ := HR.out _ hB
    by_cases hlt : k < n
    · have hkz : k < l.length := by rw [← HN.out]; exact hlt
      obtain ⟨g1, i1, rfl, _, a1, a2⟩ := HasPcs.cell ha k hkz
      obtain ⟨g2, i2, rfl, _, b1, b2⟩ := HasPcs.cell hb k hkz
      unfold strV at a2 b2
      generalize (⟨(l[k]).2.toArray⟩ : ByteArray) = Z at a2 b2
      generalize (((l[k]).1 : Nat) : Int) = pa at a1 b1
      have hki : (k : Int) < (n : Int) := by omega
      clear ha hb
      go_wp2_with fail
      go_quiet (fail)
      go_wp2_with fail
      go_roundw
      case rel => exact ⟨k + 1, by omega, by go_num, by first | exact hB | exact below_drew hB | exact below_drewN hB _⟩
      case measure => simp [intOf]; omega
    · clear ha hb
      go_wp2
      go_ret
      exact ⟨rfl, hB⟩
set_option maxHeartbeats 2000000 in
set_option maxRecDepth 20000 in
theorem same13_any (l : List GtT) (v u : Value) (w : World) (h1 : HasGts w v l) (h2 : HasGts w u l) :
    Calls Try.prog 14 #[v, u] w fun e w' => e = .returned (.bool true) ∧ Below w.heap.size w w' := by
  obtain ⟨o1, c1, rfl, hq1, hq2⟩ := HasRow.slice h1
  obtain ⟨o2, c2, rfl, _, _⟩ := HasRow.slice h2
  have HR : Hid (∀ wr : World, Below w.heap.size w wr → HasGts wr (.slice o1 l.length c1) l ∧ HasGts wr (.slice o2 l.length c2) l) := fun wr hb => ⟨h1.keep hb, h2.keep hb⟩
  obtain ⟨n, hn⟩ : ∃ n, n = l.length := ⟨_, rfl⟩
  have HN : Hid (n = l.length) := hn
  rw [← hn] at HR hq1 ⊢
  have hni : (n : Int) ≤ 9223372036854775807 := by omega
  have hneq := gt_neq
  have hgd := gt_guard
  have hnn : ((n : Int) != (n : Int)) = false := by simp
  clear h1 h2 hn hq1 hq2
  go_enter Try.func14, Try.ntmps14
  go_wp2_with fail
  go_loopw [13] (fun i wr => ∃ k : Nat, k ≤ n ∧ i = .int .i64 k ∧ Below w.heap.size w wr) (fun i _ => n - (intOf i).toNat)
  case atStart => exact ⟨0, by omega, rfl, Below.refl _ _⟩
  case round =>
    obtain ⟨k, hk, rfl, hB⟩ := hrel
    obtain ⟨ha, hb⟩ := HR.out _ hB
    by_cases hlt : k < n
    · have hkz : k < l.length := by rw [← HN.out]; exact hlt
      obtain ⟨g1, i1, rfl, _, a0, a1, a2, a3, a4, a5, a6, a7, a8, a9, a10, a11, a12⟩ := HasGts.cell ha k hkz
      obtain ⟨g2, i2, rfl, _, b0, b1, b2, b3, b4, b5, b6, b7, b8, b9, b10, b11, b12⟩ := HasGts.cell hb k hkz
      generalize (((l[k]).1.kind : Nat) : Int) = p0 at a0 b0
      generalize (l[k]).1.router = p1 at a1 b1
      generalize (((l[k]).1.seq : Nat) : Int) = p2 at a2 b2
      generalize (l[k]).1.time = p3 at a3 b3
      generalize (l[k]).1.pf.six = p4 at a4 b4
      generalize ((hiN (l[k]).1.pf.n : Nat) : Int) = p5 at a5 b5
      generalize ((loN (l[k]).1.pf.n : Nat) : Int) = p6 at a6 b6
      generalize (l[k]).1.pf.len = p7 at a7 b7
      generalize (((l[k]).1.act.k : Nat) : Int) = p8 at a8 b8
      generalize (l[k]).1.act.i = p9 at a9 b9
      generalize (l[k]).1.iface = p10 at a10 b10
      generalize (l[k]).1.peer = p11 at a11 b11
      generalize (l[k]).2 = p12 at a12 b12
      have hki : (k : Int) < (n : Int) := by omega
      clear ha hb
      go_wp2_with fail
      go_quiet (fail)
      go_wp2_with fail
      go_roundw
      case rel => exact ⟨k + 1, by omega, by go_num, by first | exact hB | exact below_drew hB | exact below_drewN hB _⟩
      case measure => simp [intOf]; omega
    · clear ha hb
      go_wp2
      go_ret
      exact ⟨rfl, hB⟩
theorem pcs_lit (W : World) (ps : List PcT) (n : Nat) (hn : n = ps.length) (hm : n ≤ 1000) (cs : Array Value) (hc : cs = (pcCs ps).toArray) : HasPcs (W.alloc (.cells cs 70)) (.slice (some ⟨W.heap.size, 0, none⟩) n n) ps := by
  subst hn hc
  refine ⟨pcCs_len ps, .inr ⟨⟨W.heap.size, 0, none⟩, ps.length, rfl, Nat.le_refl _, by omega, fun _ => ⟨rfl, by simp⟩, fun j hj => ?_⟩⟩
  rw [Ord.addr_add, Nat.zero_add]
  exact (RowAt.new W (pcCs ps) 70).cell j
theorem gts_lit (W : World) (ps : List GtT) (n : Nat) (hn : n = ps.length) (hm : n ≤ 1000) (cs : Array Value) (hc : cs = (gtCs ps).toArray) : HasGts (W.alloc (.cells cs 52)) (.slice (some ⟨W.heap.size, 0, none⟩) n n) ps := by
  subst hn hc
  refine ⟨gtCs_len ps, .inr ⟨⟨W.heap.size, 0, none⟩, ps.length, rfl, Nat.le_refl _, by omega, fun _ => ⟨rfl, by simp⟩, fun j hj => ?_⟩⟩
  rw [Ord.addr_add, Nat.zero_add]
  exact (RowAt.new W (gtCs ps) 52).cell j
end Go.Proofs.Ytopabkkapbaibaa.Gram
namespace Go.Proofs.Ytopabkkapbaibaa.Gram
open Go.RowKit Go.Shelf
open Go.Proofs.Ytopabkkapbaibaa.Ord (HasRow hasRow_nil hasRow_own HasRow.keep HasRow.slice HasRow.at)
open Go.Proofs.Ytopabkkapbaibaa.Msg (Ev evV evC getE zeroE zeroC)
open Go.Proofs.Ytopabkkapbaibaa.Addr (hiN loN RowAt below2 below_drew below_new)
theorem row_part {W : World} {b i n cap sz : Nat} {cs : List Value} (h : HasRow W (.slice (some ⟨b, i, none⟩) n cap) sz n cs) (j k : Nat) (hj : j + k ≤ n) (cap' : Nat) (hc : k ≤ cap') (hc2 : cap' ≤ 9223372036854775807) :
    HasRow W (.slice (some ⟨b, i + j * sz, none⟩) k cap') sz k ((cs.drop (j * sz)).take (k * sz)) := by
  have hm : (j + k) * sz ≤ n * sz := Nat.mul_le_mul_right sz hj
  rw [Nat.add_mul] at hm
  refine ⟨by rw [List.length_take, List.length_drop, h.1]; omega, .inr ⟨⟨b, i + j * sz, none⟩, cap', rfl, hc, hc2, fun h0 => ⟨rfl, ?_⟩, fun x hx => ?_⟩⟩
  · obtain ⟨_, b', i', e, hb, _⟩ := HasRow.at h (by omega)
    injection e with e; injection e with e1 e2; subst e1
    exact hb
  · have hn : 0 < n := by
      rcases Nat.eq_zero_or_pos n with h0 | h0
      · subst h0
        have : k = 0 := by omega
        subst this
        omega
      · exact h0
    obtain ⟨_, b', i', e, hb, hcell⟩ := HasRow.at h hn
    injection e with e; injection e with e1 e2; subst e1 e2
    rw [Ord.addr_add, Nat.add_assoc, hcell (j * sz + x) (by omega), List.getElem?_take_of_lt hx, List.getElem?_drop]
theorem gtCs_drop (l : List GtT) : ∀ j, (gtCs l).drop (j * 13) = gtCs (l.drop j) := by
  induction l with
  | nil => intro j; simp [gtCs]
  | cons g l ih =>
    intro j
    cases j with
    | zero => rfl
    | succ j =>
      show (gtC g ++ gtCs l).drop ((j + 1) * 13) = gtCs (l.drop j)
      rw [← ih j, show (j + 1) * 13 = (gtC g).length + j * 13 by show _ = 13 + _; omega, List.drop_append]
      simp
theorem gtCs_take (l : List GtT) : ∀ j, (gtCs l).take (j * 13) = gtCs (l.take j) := by
  induction l with
  | nil => intro j; simp [gtCs]
  | cons g l ih =>
    intro j
    cases j with
    | zero => simp [gtCs]
    | succ j =>
      show (gtC g ++ gtCs l).take ((j + 1) * 13) = gtC g ++ gtCs (l.take j)
      rw [← ih j, show (j + 1) * 13 = (gtC g).length + j * 13 by show _ = 13 + _; omega, List.take_length_add_append]
/-- a part of a row of what pieces come to -/
theorem gts_part {W : World} {b i n cap : Nat} {l : List GtT} (h : HasGts W (.slice (some ⟨b, i, none⟩) n cap) l) (j k : Nat) (hn : n = l.length) (hj : j + k ≤ n) (cap' : Nat) (hc : k ≤ cap') (hc2 : cap' ≤ 9223372036854775807) :
    HasGts W (.slice (some ⟨b, i + j * 13, none⟩) k cap') ((l.drop j).take k) := by
  subst hn
  have := row_part h j k hj cap' hc hc2
  rw [gtCs_drop, gtCs_take] at this
  have e : ((l.drop j).take k).length = k := by rw [List.length_take, List.length_drop]; omega
  unfold HasGts
  rw [e]
  exact this
/-- where a row lies that a call made -/
def Lies (W : World) (V : Value) (n : Nat) : Prop := (V = .slice none 0 0 ∧ n = 0) ∨ ∃ g cap, V = .slice (some ⟨g, 0, none⟩) n cap ∧ n ≤ cap ∧ cap ≤ 9223372036854775807 ∧ W.heap.size ≤ g
theorem lies_own {W W' : World} {e sz n : Nat} {v : Value} {cs : List Value} (h : W'.ownsRow W.heap.size e sz v n cs) : Lies W v n := by
  rcases h.2 with h0 | ⟨g, cap, cur, rfl, hg, hgb, hnc, hcm, rest⟩
  · exact .inl h0
  · exact .inr ⟨g, cap, rfl, hnc, by unfold maxLen at hcm; exact hcm, hg⟩
theorem gotsR_any (l : List UInt8) (w : World) (hl : l.length ≤ 281474976710656) (hm : (piecesL l).length ≤ 1000000000000) :
    Calls Try.prog 13 #[.string ⟨l.toArray⟩] w fun e w' => ∃ v, e = .returned v ∧ HasGts w' v ((piecesL l).map gotG) ∧ Lies w v ((piecesL l).map gotG).length ∧ Below w.heap.size w w' := by
  refine (gots_any l w hl hm).mono ?_
  rintro e w' ⟨v, h1, h2, h3⟩
  refine ⟨v, h1, ?_, ?_, h3⟩
  · unfold HasGts; rw [List.length_map]; exact hasRow_own h2
  · rw [List.length_map]; exact lies_own h2
theorem piecesR_any (l : List UInt8) (w : World) (hl : l.length ≤ 281474976710656) (hm : (piecesL l).length ≤ 4398046511104) :
    Calls Try.prog 12 #[.string ⟨l.toArray⟩] w fun e w' => ∃ v, e = .returned v ∧ HasPcs w' v (piecesL l) ∧ Lies w v (piecesL l).length ∧ Below w.heap.size w w' := by
  refine (pieces_any l w hl hm).mono ?_
  rintro e w' ⟨v, h1, h2, h3⟩
  exact ⟨v, h1, hasRow_own h2, lies_own h2, h3⟩
end Go.Proofs.Ytopabkkapbaibaa.Gram
namespace Go.Proofs.Ytopabkkapbaibaa.Gram
open Go.RowKit Go.Shelf
open Go.Proofs.Ytopabkkapbaibaa.Ord (HasRow hasRow_nil hasRow_own HasEvs evCs evCs_len)
open Go.Proofs.Ytopabkkapbaibaa.Msg (Ev okE evB checkE evV evC FitE cells12' gkeep gsetO set1 results_cell_tmp1 zeroPf zeroA zeroE evV_zero evV_z)
open Go.Proofs.Ytopabkkapbaibaa.Addr (hiN loN RowAt below2 below_drew below_new bset RowAt.lt RowAt.cell RowAt.frozen RowAt.below RowAt.drew RowAt.new RowAt.alloc gdrew gset gbelow galloc grefl gfinal cells2 cells4 results_cell)
attribute [-go_sem] Builtin.append_

def upE : Ev := ⟨1, 1, 1, 5, zeroPf, zeroA, 0, 0⟩
theorem fit_up : FitE upE := ⟨by decide, by decide, by decide, by decide, by decide, by decide, ⟨by decide, by decide, by decide⟩, by decide, by decide⟩
theorem fit_ze : FitE zeroE := ⟨by decide, by decide, by decide, by decide, by decide, by decide, ⟨by decide, by decide, by decide⟩, by decide, by decide⟩
theorem v_up : evV upE = .agg #[.int .u8 1, .int .i64 1, .int .u64 1, .int .i64 5, .bool false, .int .u64 0, .int .u64 0, .int .i64 0, .int .u8 0, .int .i64 0, .int .i64 0, .int .i64 0] := by unfold upE; rw [evV_zero]; rfl
theorem c_up : evC upE = [.int .u8 1, .int .i64 1, .int .u64 1, .int .i64 5, .bool false, .int .u64 0, .int .u64 0, .int .i64 0, .int .u8 0, .int .i64 0, .int .i64 0, .int .i64 0] := by have := v_up; unfold evV at this; injection this with this; exact List.toArray_inj this
theorem c_ze : evC zeroE = [.int .u8 0, .int .i64 0, .int .u64 0, .int .i64 0, .bool false, .int .u64 0, .int .u64 0, .int .i64 0, .int .u8 0, .int .i64 0, .int .i64 0, .int .i64 0] := by have := evV_z; unfold evV at this; injection this with this; exact List.toArray_inj this
theorem evs_lit (W : World) (es : List Ev) (n : Nat) (hn : n = es.length) (hm : n ≤ 1000) (cs : Array Value) (hc : cs = (evCs es).toArray) : HasEvs (W.alloc (.cells cs 50)) (.slice (some ⟨W.heap.size, 0, none⟩) n n) es := by
  subst hn hc
  refine ⟨evCs_len es, .inr ⟨⟨W.heap.size, 0, none⟩, es.length, rfl, Nat.le_refl _, by omega, fun _ => ⟨rfl, by simp⟩, fun j hj => ?_⟩⟩
  rw [Ord.addr_add, Nat.zero_add]
  exact (RowAt.new W (evCs es) 50).cell j
theorem l1 : streamG [] [upE] = ([245, 0, 4, 1, 1, 1, 5], 0) := by kernel_rfl
theorem l2 : (piecesL [245, 0, 4, 1, 1, 1, 5, 0]).map gotG = [(upE, 0), (zeroE, 7)] := by kernel_rfl
theorem l2n : (piecesL [245, 0, 4, 1, 1, 1, 5, 0]).length = 2 := by kernel_rfl
theorem l3 : piecesL [245, 0, 4, 1, 1, 1, 5, 245, 0, 0, 245] = [(1, [1, 1, 1, 5]), (3, [])] := by kernel_rfl
theorem l4 : ofG (1, [63]) = ((zeroE, 2), 0) := by kernel_rfl
theorem l5 : ofG (2, [63]) = ((zeroE, 0), 2) := by kernel_rfl
theorem l6 : streamG [] [zeroE] = ([], 2) := by kernel_rfl
theorem lg : (#[.int .u8 1, .int .i64 1, .int .u64 1, .int .i64 5, .bool false, .int .u64 0, .int .u64 0, .int .i64 0, .int .u8 0, .int .i64 0, .int .i64 0, .int .i64 0, .int .i64 0, .int .u8 0, .int .i64 0, .int .u64 0, .int .i64 0, .bool false, .int .u64 0, .int .u64 0, .int .i64 0, .int .u8 0, .int .i64 0, .int .i64 0, .int .i64 0, .int .i64 7] : Array Value) = (gtCs [(upE, 0), (zeroE, 7)]).toArray := by
  show _ = ((evC upE ++ ([.int .i64 0] : List Value)) ++ ((evC zeroE ++ ([.int .i64 7] : List Value)) ++ [])).toArray
  rw [c_up, c_ze]
  rfl
theorem lp : (#[.int .u8 1, .string ⟨#[1, 1, 1, 5]⟩, .int .u8 3, .string ⟨#[]⟩] : Array Value) = (pcCs [(1, [1, 1, 1, 5]), (3, [])]).toArray := rfl
set_option maxHeartbeats 8000000 in
set_option maxRecDepth 20000 in
theorem lives_any (w : World) : Calls Try.prog 9 #[] w fun e w' => e = .returned (.bool true) ∧ Below w.heap.size w w' := by
  have k1 : ∀ (W : World) (v : Value), HasEvs W v [upE] → Calls Try.prog 7 #[v] W fun r w' => r = .returned (.tuple #[.string ⟨#[245, 0, 4, 1, 1, 1, 5]⟩, .int .i64 0]) ∧ Below W.heap.size W w' := fun W v hv => by
    have := stream_any [upE] v W hv (by simp only [List.mem_singleton]; rintro e rfl; exact fit_up) (by simp only [List.mem_singleton]; rintro e rfl h; exact (evB_len _ h).2) (by decide)
    rw [l1] at this
    exact this
  have k2 : ∀ W : World, Calls Try.prog 13 #[.string ⟨#[245, 0, 4, 1, 1, 1, 5, 0]⟩] W fun r w' => ∃ v, r = .returned v ∧ HasGts w' v [(upE, 0), (zeroE, 7)] ∧ Below W.heap.size W w' := fun W => by
    have := gots_any [245, 0, 4, 1, 1, 1, 5, 0] W (by decide) (by rw [l2n]; decide)
    rw [l2, l2n] at this
    refine this.mono ?_
    rintro r w' ⟨v, h1, h2, h3⟩
    exact ⟨v, h1, hasRow_own h2, h3⟩
  have k3 : ∀ W : World, Calls Try.prog 12 #[.string ⟨#[245, 0, 4, 1, 1, 1, 5, 245, 0, 0, 245]⟩] W fun r w' => ∃ v, r = .returned v ∧ HasPcs w' v [(1, [1, 1, 1, 5]), (3, [])] ∧ Below W.heap.size W w' := fun W => by
    have := pieces_any [245, 0, 4, 1, 1, 1, 5, 245, 0, 0, 245] W (by decide) (by rw [l3]; decide)
    rw [l3] at this
    refine this.mono ?_
    rintro r w' ⟨v, h1, h2, h3⟩
    exact ⟨v, h1, hasRow_own h2, h3⟩
  have k4 : ∀ W : World, Calls Try.prog 20 #[.agg #[.int .u8 1, .string ⟨#[63]⟩]] W fun r w' => r = .returned (.tuple #[.agg #[.int .u8 0, .int .i64 0, .int .u64 0, .int .i64 0, .bool false, .int .u64 0, .int .u64 0, .int .i64 0, .int .u8 0, .int .i64 0, .int .i64 0, .int .i64 0, .int .i64 2], .int .i64 0]) ∧ Below W.heap.size W w' := fun W => by
    have := of_any 1 [63] W (by decide) (by decide)
    rw [l4, gtV_z] at this
    exact this
  have k5 : ∀ W : World, Calls Try.prog 20 #[.agg #[.int .u8 2, .string ⟨#[63]⟩]] W fun r w' => r = .returned (.tuple #[.agg #[.int .u8 0, .int .i64 0, .int .u64 0, .int .i64 0, .bool false, .int .u64 0, .int .u64 0, .int .i64 0, .int .u8 0, .int .i64 0, .int .i64 0, .int .i64 0, .int .i64 0], .int .i64 2]) ∧ Below W.heap.size W w' := fun W => by
    have := of_any 2 [63] W (by decide) (by decide)
    rw [l5, gtV_z] at this
    exact this
  have k6 : ∀ (W : World) (v : Value), HasEvs W v [zeroE] → Calls Try.prog 7 #[v] W fun r w' => r = .returned (.tuple #[.string ⟨#[]⟩, .int .i64 2]) ∧ Below W.heap.size W w' := fun W v hv => by
    have := stream_any [zeroE] v W hv (by simp only [List.mem_singleton]; rintro e rfl; exact fit_ze) (by simp only [List.mem_singleton]; rintro e rfl h; exact (evB_len _ h).2) (by decide)
    rw [l6] at this
    exact this
  have k7 : ∀ (W : World) (u v : Value), HasGts W u [(upE, 0), (zeroE, 7)] → HasGts W v [(upE, 0), (zeroE, 7)] → Calls Try.prog 14 #[u, v] W fun r w' => r = .returned (.bool true) ∧ Below W.heap.size W w' := fun W u v h1 h2 => same13_any _ u v W h1 h2
  have k8 : ∀ (W : World) (u v : Value), HasPcs W u [(1, [1, 1, 1, 5]), (3, [])] → HasPcs W v [(1, [1, 1, 1, 5]), (3, [])] → Calls Try.prog 11 #[u, v] W fun r w' => r = .returned (.bool true) ∧ Below W.heap.size W w' := fun W u v h1 h2 => same12_any _ u v W h1 h2
  have HU : Hid (∀ W : World, HasEvs (W.alloc (.cells #[.int .u8 1, .int .i64 1, .int .u64 1, .int .i64 5, .bool false, .int .u64 0, .int .u64 0, .int .i64 0, .int .u8 0, .int .i64 0, .int .i64 0, .int .i64 0] 50)) (.slice (some ⟨W.heap.size, 0, none⟩) 1 1) [upE]) := fun W => evs_lit W _ 1 rfl (by decide) _ (by show _ = (evC upE ++ []).toArray; rw [c_up]; rfl)
  have HZ : Hid (∀ W : World, HasEvs (W.alloc (.cells #[.int .u8 0, .int .i64 0, .int .u64 0, .int .i64 0, .bool false, .int .u64 0, .int .u64 0, .int .i64 0, .int .u8 0, .int .i64 0, .int .i64 0, .int .i64 0] 50)) (.slice (some ⟨W.heap.size, 0, none⟩) 1 1) [zeroE]) := fun W => evs_lit W _ 1 rfl (by decide) _ (by show _ = (evC zeroE ++ []).toArray; rw [c_ze]; rfl)
  have HG : Hid (∀ W : World, HasGts (W.alloc (.cells #[.int .u8 1, .int .i64 1, .int .u64 1, .int .i64 5, .bool false, .int .u64 0, .int .u64 0, .int .i64 0, .int .u8 0, .int .i64 0, .int .i64 0, .int .i64 0, .int .i64 0, .int .u8 0, .int .i64 0, .int .u64 0, .int .i64 0, .bool false, .int .u64 0, .int .u64 0, .int .i64 0, .int .u8 0, .int .i64 0, .int .i64 0, .int .i64 0, .int .i64 7] 52)) (.slice (some ⟨W.heap.size, 0, none⟩) 2 2) [(upE, 0), (zeroE, 7)]) := fun W => gts_lit W _ 2 rfl (by decide) _ lg
  have HP : Hid (∀ W : World, HasPcs (W.alloc (.cells #[.int .u8 1, .string ⟨#[1, 1, 1, 5]⟩, .int .u8 3, .string ⟨#[]⟩] 70)) (.slice (some ⟨W.heap.size, 0, none⟩) 2 2) [(1, [1, 1, 1, 5]), (3, [])]) := fun W => pcs_lit W _ 2 rfl (by decide) _ lp
  have hge := gt_eql
  have hgd := gt_guard
  obtain ⟨X, hX⟩ : ∃ X, X = w.alloc (.cells #[.int .u8 1, .int .i64 1, .int .u64 1, .int .i64 5, .bool false, .int .u64 0, .int .u64 0, .int .i64 0, .int .u8 0, .int .i64 0, .int .i64 0, .int .i64 0] 50) := ⟨_, rfl⟩
  have hB : Below w.heap.size w X := by rw [hX]; exact below_new (Below.refl _ _) _
  have r1 : RowAt X w.heap.size [.int .u8 1, .int .i64 1, .int .u64 1, .int .i64 5, .bool false, .int .u64 0, .int .u64 0, .int .i64 0, .int .u8 0, .int .i64 0, .int .i64 0, .int .i64 0] 50 := by rw [hX]; exact RowAt.new w [.int .u8 1, .int .i64 1, .int .u64 1, .int .i64 5, .bool false, .int .u64 0, .int .u64 0, .int .i64 0, .int .u8 0, .int .i64 0, .int .i64 0, .int .i64 0] 50
  go_enter Try.func9, Try.ntmps9
  go_upto_region 2 with fail
  rw [← hX]
  clear hX
  obtain ⟨g1, hg1⟩ : ∃ g, g = w.heap.size := ⟨_, rfl⟩
  have hgw : w.heap.size ≤ g1 := by omega
  rw [← hg1] at r1
  rw [← hg1]
  clear hg1
  obtain ⟨⟨y0, y1, y2, y3, y4, y5⟩, ⟨y6, y7, y8, y9, y10, y11⟩, yf, hly⟩ := cells12' r1
  go_wp2_with fail
  go_at_call 7; refine (k1 _ _ (HU.out _)).mono ?_; rintro e w1 ⟨rfl, hb0⟩
  have hb := below2 (below_new (Below.refl _ X) _) hb0
  replace r1 := RowAt.below r1 hb
  replace hB := below2 hB hb
  clear hb hb0
  clear y0 y1 y2 y3 y4 y5 y6 y7 y8 y9 y10 y11 yf hly
  obtain ⟨⟨y0, y1, y2, y3, y4, y5⟩, ⟨y6, y7, y8, y9, y10, y11⟩, yf, hly⟩ := cells12' r1
  go_wp2_with fail
  go_at_call 13; refine (k2 _).mono ?_; rintro e w2 ⟨u1, rfl, hs1, hb⟩
  replace r1 := RowAt.below r1 hb
  replace hB := below2 hB hb
  have S1 : Hid (HasGts w2 u1 [(upE, 0), (zeroE, 7)]) := hs1
  clear hs1
  clear hb 
  clear y0 y1 y2 y3 y4 y5 y6 y7 y8 y9 y10 y11 yf hly
  obtain ⟨⟨y0, y1, y2, y3, y4, y5⟩, ⟨y6, y7, y8, y9, y10, y11⟩, yf, hly⟩ := cells12' r1
  go_wp2_with fail
  go_at_call 12; refine (k3 _).mono ?_; rintro e w3 ⟨u2, rfl, hs2, hb⟩
  replace r1 := RowAt.below r1 hb
  replace hB := below2 hB hb
  replace S1 := (show Hid (HasGts _ _ _) from S1.out.keep hb)
  have S2 : Hid (HasPcs w3 u2 [(1, [1, 1, 1, 5]), (3, [])]) := hs2
  clear hs2
  clear hb 
  clear y0 y1 y2 y3 y4 y5 y6 y7 y8 y9 y10 y11 yf hly
  obtain ⟨⟨y0, y1, y2, y3, y4, y5⟩, ⟨y6, y7, y8, y9, y10, y11⟩, yf, hly⟩ := cells12' r1
  go_wp2_with fail
  go_at_call 20; refine (k4 _).mono ?_; rintro e w4 ⟨rfl, hb⟩
  replace r1 := RowAt.below r1 hb
  replace hB := below2 hB hb
  replace S1 := (show Hid (HasGts _ _ _) from S1.out.keep hb)
  replace S2 := (show Hid (HasPcs _ _ _) from S2.out.keep hb)
  clear hb 
  clear y0 y1 y2 y3 y4 y5 y6 y7 y8 y9 y10 y11 yf hly
  go_upto_region 6 with fail
  obtain ⟨Y, hY⟩ : ∃ Y, Y = w4.alloc (.cells #[.int .u8 0, .int .i64 0, .int .u64 0, .int .i64 0, .bool false, .int .u64 0, .int .u64 0, .int .i64 0, .int .u8 0, .int .i64 0, .int .i64 0, .int .i64 0, .int .i64 2] 52) := ⟨_, rfl⟩
  have hb : Below w4.heap.size w4 Y := by rw [hY]; exact below_new (Below.refl _ _) _
  have r2 : RowAt Y w4.heap.size [.int .u8 0, .int .i64 0, .int .u64 0, .int .i64 0, .bool false, .int .u64 0, .int .u64 0, .int .i64 0, .int .u8 0, .int .i64 0, .int .i64 0, .int .i64 0, .int .i64 2] 52 := by rw [hY]; exact RowAt.new _ _ _
  rw [← hY]
  replace r1 := RowAt.below r1 hb
  replace hB := below2 hB hb
  replace S1 := (show Hid (HasGts _ _ _) from S1.out.keep hb)
  replace S2 := (show Hid (HasPcs _ _ _) from S2.out.keep hb)
  clear hY hb
  obtain ⟨g2, hg2⟩ : ∃ g, g = w4.heap.size := ⟨_, rfl⟩
  rw [← hg2] at r2 ⊢
  clear hg2
  obtain ⟨⟨y0, y1, y2, y3, y4, y5⟩, ⟨y6, y7, y8, y9, y10, y11⟩, yf, hly⟩ := cells12' r1
  go_wp2_with fail
  go_at_call 20; refine (k5 _).mono ?_; rintro e w5 ⟨rfl, hb⟩
  replace r1 := RowAt.below r1 hb
  replace hB := below2 hB hb
  replace S1 := (show Hid (HasGts _ _ _) from S1.out.keep hb)
  replace S2 := (show Hid (HasPcs _ _ _) from S2.out.keep hb)
  replace r2 := RowAt.below r2 hb
  clear hb 
  clear y0 y1 y2 y3 y4 y5 y6 y7 y8 y9 y10 y11 yf hly
  go_upto_region 7 with fail
  obtain ⟨Z, hZ⟩ : ∃ Z, Z = w5.alloc (.cells #[.int .u8 0, .int .i64 0, .int .u64 0, .int .i64 0, .bool false, .int .u64 0, .int .u64 0, .int .i64 0, .int .u8 0, .int .i64 0, .int .i64 0, .int .i64 0, .int .i64 0] 52) := ⟨_, rfl⟩
  have hb : Below w5.heap.size w5 Z := by rw [hZ]; exact below_new (Below.refl _ _) _
  rw [← hZ]
  replace r1 := RowAt.below r1 hb
  replace r2 := RowAt.below r2 hb
  replace hB := below2 hB hb
  replace S1 := (show Hid (HasGts _ _ _) from S1.out.keep hb)
  replace S2 := (show Hid (HasPcs _ _ _) from S2.out.keep hb)
  clear hZ hb
  obtain ⟨⟨y0, y1, y2, y3, y4, y5⟩, ⟨y6, y7, y8, y9, y10, y11⟩, yf, hly⟩ := cells12' r1
  go_wp2_with fail
  go_at_call 7; refine (k6 _ _ (HZ.out _)).mono ?_; rintro e w6 ⟨rfl, hb0⟩
  have hb := below2 (below_new (Below.refl _ Z) _) hb0
  replace r1 := RowAt.below r1 hb
  replace hB := below2 hB hb
  replace S1 := (show Hid (HasGts _ _ _) from S1.out.keep hb)
  replace S2 := (show Hid (HasPcs _ _ _) from S2.out.keep hb)
  replace r2 := RowAt.below r2 hb
  clear hb hb0
  clear y0 y1 y2 y3 y4 y5 y6 y7 y8 y9 y10 y11 yf hly
  obtain ⟨⟨y0, y1, y2, y3, y4, y5⟩, ⟨y6, y7, y8, y9, y10, y11⟩, yf, hly⟩ := cells12' r1
  go_wp2_with fail
  go_at_call 14; refine (k7 _ _ _ (S1.out.keep (below_new (Below.refl _ _) _)) (HG.out _)).mono ?_; rintro e w7 ⟨rfl, hb0⟩
  have hb := below2 (below_new (Below.refl _ w6) _) hb0
  replace r1 := RowAt.below r1 hb
  replace hB := below2 hB hb
  replace S1 := (show Hid (HasGts _ _ _) from S1.out.keep hb)
  replace S2 := (show Hid (HasPcs _ _ _) from S2.out.keep hb)
  replace r2 := RowAt.below r2 hb
  clear hb hb0
  clear y0 y1 y2 y3 y4 y5 y6 y7 y8 y9 y10 y11 yf hly
  obtain ⟨⟨y0, y1, y2, y3, y4, y5⟩, ⟨y6, y7, y8, y9, y10, y11⟩, yf, hly⟩ := cells12' r1
  go_wp2_with fail
  go_at_call 11; refine (k8 _ _ _ (S2.out.keep (below_new (Below.refl _ _) _)) (HP.out _)).mono ?_; rintro e w8 ⟨rfl, hb0⟩
  have hb := below2 (below_new (Below.refl _ w7) _) hb0
  replace r1 := RowAt.below r1 hb
  replace hB := below2 hB hb
  replace S1 := (show Hid (HasGts _ _ _) from S1.out.keep hb)
  replace S2 := (show Hid (HasPcs _ _ _) from S2.out.keep hb)
  replace r2 := RowAt.below r2 hb
  clear hb hb0
  clear y0 y1 y2 y3 y4 y5 y6 y7 y8 y9 y10 y11 yf hly
  obtain ⟨⟨z0, z1, z2, z3, z4, z5⟩, ⟨z6, z7, z8, z9, z10, z11, z12⟩, zf, hlz⟩ := cells13 r2
  go_wp2_with fail
  go_ret
  exact ⟨rfl, hB⟩
end Go.Proofs.Ytopabkkapbaibaa.Gram
