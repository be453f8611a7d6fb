/- What Get, GetPrefix and GetAction return. -/
import Derived.Test.YtopabkkapbaibaaGreatMsgFirst2
set_option linter.unusedVariables false
namespace Go.Proofs.YtopabkkapbaibaaGreat.Msg
open Go.RowKit
open Go.Proofs.YtopabkkapbaibaaGreat.Addr (Pf okP checkP wideN firstN kP hiN loN adV pfV RowAt below2 below_drew below_new bset RowAt.lt RowAt.cell RowAt.frozen RowAt.below RowAt.drew RowAt.new RowAt.alloc gdrew gset gbelow galloc grefl cells2 cells4 results_cell)

theorem clone_any (s : ByteArray) (w : World) (hs : s.size ≤ 281474976710656) :
    Calls Tryz.prog 18 #[.string s] w fun e w' => e = .returned (.string s) ∧ Below w.heap.size w w' := by
  go_enter Tryz.func18, Tryz.ntmps18
  go_wp2_with (go_at_call 29; refine (Tryz.stringslite_Clone s _ hs).mono ?_; rintro e w1 ⟨rfl, hb⟩)
  go_ret
  exact ⟨rfl, hb⟩
theorem firstP_len {α : Type} (rd : Option (List UInt8) → α × Option (List UInt8)) (ok : α → Bool) (z : α) (s : List UInt8) (h : Len (rd (some s)).2 s.length) : (firstP rd ok z s).2.1.length ≤ s.length := by
  unfold firstP
  cases hr : (rd (some s)).2 with
  | none => simp
  | some r =>
    simp only
    split
    · exact h r hr
    · simp
theorem rdA_len {st : Option (List UInt8)} {m : Nat} (h : Len st m) : Len (rdA st).2 m := by
  have h1 := part_len (z := (0 : Nat)) (f := f1) (fun l v r => f1_len) h
  unfold rdA
  split
  · exact part_len (fun l v r => fI_len) h1
  · exact h1
/-- the right event whose body a text is -/
def getE (s : List UInt8) : Ev × Int := if (firstP rdE okE zeroE s).2.1.isEmpty then ((firstP rdE okE zeroE s).1, (firstP rdE okE zeroE s).2.2) else (zeroE, 7)
set_option maxHeartbeats 4000000 in
theorem eget_any (s : List UInt8) (w : World) (hs : (s.length : Int) ≤ 200000000000000) :
    Calls Tryz.prog 19 #[.string ⟨s.toArray⟩] w fun e w' => e = .returned (.tuple #[evV (getE s).1, .int .i64 (getE s).2]) ∧ Below w.heap.size w w' := by
  have c1 := fun W => first_ev s W hs
  have HG : Hid (getE s = if (firstP rdE okE zeroE s).2.1.isEmpty then ((firstP rdE okE zeroE s).1, (firstP rdE okE zeroE s).2.2) else (zeroE, 7)) := rfl
  generalize getE s = G at HG ⊢
  generalize firstP rdE okE zeroE s = R at *
  obtain ⟨q, r, y⟩ := R
  simp only at *
  have HQ : Hid (evV q = evV q) := rfl
  obtain ⟨k, a, b, c, ⟨s6, n, ln⟩, ⟨ak, ai⟩, i, p⟩ := q
  unfold evV evC at c1
  simp only at c1
  have HEQ : Hid (evV ⟨k, a, b, c, ⟨s6, n, ln⟩, ⟨ak, ai⟩, i, p⟩ = .agg #[.int .u8 (k : Int), .int .i64 a, .int .u64 (b : Int), .int .i64 c, .bool s6, .int .u64 (hiN n : Int), .int .u64 (loN n : Int), .int .i64 ln, .int .u8 (ak : Int), .int .i64 ai, .int .i64 i, .int .i64 p]) := rfl
  clear HQ
  generalize hiN n = nh at *
  generalize loN n = nl at *
  obtain ⟨X, hX⟩ : ∃ X, X = w.alloc (.cells #[.int .u8 0, .int .i64 0, .int .u64 0, .int .i64 0, .bool false, .int .u64 0, .int .u64 0, .int .i64 0, .int .u8 0, .int .i64 0, .int .i64 0, .int .i64 0] 35) := ⟨_, rfl⟩
  have hB : Below w.heap.size w X := by rw [hX]; exact below_new (Below.refl _ _) _
  have rx : RowAt X w.heap.size [.int .u8 0, .int .i64 0, .int .u64 0, .int .i64 0, .bool false, .int .u64 0, .int .u64 0, .int .i64 0, .int .u8 0, .int .i64 0, .int .i64 0, .int .i64 0] 35 := by rw [hX]; exact RowAt.new _ _ _
  have hlx := RowAt.lt rx
  go_enter Tryz.func19, Tryz.ntmps19
  go_upto_region 1 with fail
  rw [← hX]
  clear hX
  go_wp2_with fail
  go_at_call 30; refine (c1 _).mono ?_; rintro e w1 ⟨rfl, hb1⟩
  go_upto_region 2 with fail
  obtain ⟨Y, hY⟩ : ∃ Y, Y = w1.alloc (.cells #[.int .u8 (k : Int), .int .i64 a, .int .u64 (b : Int), .int .i64 c, .bool s6, .int .u64 (nh : Int), .int .u64 (nl : Int), .int .i64 ln, .int .u8 (ak : Int), .int .i64 ai, .int .i64 i, .int .i64 p] 35) := ⟨_, rfl⟩
  have hbY : Below w1.heap.size w1 Y := by rw [hY]; exact below_new (Below.refl _ _) _
  have tY : RowAt Y w1.heap.size [.int .u8 (k : Int), .int .i64 a, .int .u64 (b : Int), .int .i64 c, .bool s6, .int .u64 (nh : Int), .int .u64 (nl : Int), .int .i64 ln, .int .u8 (ak : Int), .int .i64 ai, .int .i64 i, .int .i64 p] 35 := by rw [hY]; exact RowAt.new _ _ _
  rw [← hY]
  replace rx := RowAt.below (RowAt.below rx hb1) hbY
  replace hB := below2 (below2 hB hb1) hbY
  have hgt : w.heap.size < w1.heap.size := Nat.lt_of_lt_of_le hlx hb1.size
  clear hY hbY hb1 c1 hlx
  generalize w1.heap.size = t1 at tY hgt ⊢
  obtain ⟨⟨u0, u1, u2, u3, u4, u5⟩, ⟨u6, u7, u8, u9, u10, u11⟩, uf, ul⟩ := cells12 tY
  obtain ⟨⟨y0, y1, y2, y3, y4, y5⟩, ⟨y6, y7, y8, y9, y10, y11⟩, yf, yl⟩ := cells12 rx
  clear tY rx
  cases hr : r.isEmpty
  · have HV : Hid (G = (zeroE, 7)) := by show _ = _; rw [HG.out, hr]; rfl
    clear HG
    go_wp2_with fail
    refine bodyPost_ret (v := .tuple #[.agg #[.int .u8 0, .int .i64 0, .int .u64 0, .int .i64 0, .bool false, .int .u64 0, .int .u64 0, .int .i64 0, .int .u8 0, .int .i64 0, .int .i64 0, .int .i64 0], .int .i64 7]) ?_ rfl ⟨by rw [HV.out, evV_z], ?_⟩
    · rw [results_cell_tmp1 rfl]
      go_simp
    · repeat' (first | with_reducible exact hB | with_reducible refine bset ?_ (by omega))
  · have HV : Hid (G = (⟨k, a, b, c, ⟨s6, n, ln⟩, ⟨ak, ai⟩, i, p⟩, y)) := by show _ = _; rw [HG.out, hr]; rfl
    clear HG
    go_wp2_with fail
    refine bodyPost_ret (v := .tuple #[.agg #[.int .u8 (k : Int), .int .i64 a, .int .u64 (b : Int), .int .i64 c, .bool s6, .int .u64 (nh : Int), .int .u64 (nl : Int), .int .i64 ln, .int .u8 (ak : Int), .int .i64 ai, .int .i64 i, .int .i64 p], .int .i64 y]) ?_ rfl ⟨by rw [HV.out, HEQ.out], ?_⟩
    · rw [results_cell_tmp1 rfl]
      go_simp
    · repeat' (first | with_reducible exact hB | with_reducible refine bset ?_ (by omega))
end Go.Proofs.YtopabkkapbaibaaGreat.Msg
