/- What gram.got answers. -/
import Derived.Test.YtopabkkapbaibaaGramPcs
import Derived.Deep.Cut
set_option linter.unusedVariables false
namespace Go.Proofs.Ytopabkkapbaibaa.Gram
open Go.RowKit Go.Shelf
open Go.Proofs.Ytopabkkapbaibaa.Addr (hiN loN RowAt below2 below_drew below_new bset RowAt.lt RowAt.cell RowAt.frozen RowAt.below RowAt.drew RowAt.new RowAt.alloc cells2 cells4 results_cell)
open Go.Proofs.Ytopabkkapbaibaa.Msg (Ev evV evC getE eget_any zeroE zeroC cells12)
abbrev GtT : Type := Ev × Int
def gtC (g : GtT) : List Value := evC g.1 ++ [.int .i64 g.2]
def gtV (g : GtT) : Value := .agg (gtC g).toArray
def gotG (p : PcT) : GtT := if p.1 = 2 then (zeroE, 7) else if p.1 = 3 then (zeroE, 11) else if (getE p.2).2 = 0 then ((getE p.2).1, 0) else (zeroE, 2)
theorem gtV_z (y : Int) : gtV (zeroE, y) = .agg #[.int .u8 0, .int .i64 0, .int .u64 0, .int .i64 0, .bool false, .int .u64 0, .int .u64 0, .int .i64 0, .int .u8 0, .int .i64 0, .int .i64 0, .int .i64 0, .int .i64 y] := by unfold gtV gtC; rw [zeroC]; rfl
theorem cells13 {W : World} {b : Nat} {a0 a1 a2 a3 a4 a5 a6 a7 a8 a9 a10 a11 a12 : Value} {t : TypeId} (h : RowAt W b [a0, a1, a2, a3, a4, a5, a6, a7, a8, a9, a10, a11, a12] t) :
    (W.cell? ⟨b, 0, none⟩ = some a0 ∧ W.cell? ⟨b, 1, none⟩ = some a1 ∧ W.cell? ⟨b, 2, none⟩ = some a2 ∧ W.cell? ⟨b, 3, none⟩ = some a3 ∧ W.cell? ⟨b, 4, none⟩ = some a4 ∧ W.cell? ⟨b, 5, none⟩ = some a5) ∧ (W.cell? ⟨b, 6, none⟩ = some a6 ∧ W.cell? ⟨b, 7, none⟩ = some a7 ∧ W.cell? ⟨b, 8, none⟩ = some a8 ∧ W.cell? ⟨b, 9, none⟩ = some a9 ∧ W.cell? ⟨b, 10, none⟩ = some a10 ∧ W.cell? ⟨b, 11, none⟩ = some a11 ∧ W.cell? ⟨b, 12, none⟩ = some a12) ∧ (∀ k, W.frozen? ⟨b, k, none⟩ = false) ∧ b < W.heap.size :=
  ⟨⟨RowAt.cell h 0, RowAt.cell h 1, RowAt.cell h 2, RowAt.cell h 3, RowAt.cell h 4, RowAt.cell h 5⟩, ⟨RowAt.cell h 6, RowAt.cell h 7, RowAt.cell h 8, RowAt.cell h 9, RowAt.cell h 10, RowAt.cell h 11, RowAt.cell h 12⟩, RowAt.frozen h, RowAt.lt h⟩
set_option maxHeartbeats 4000000 in
theorem got_any (k : Nat) (b : List UInt8) (w : World) (hk : k ≤ 255) (hb : (b.length : Int) ≤ 200000000000000) :
    Calls Try.prog 25 #[pcV (k, b)] w fun e w' => e = .returned (gtV (gotG (k, b))) ∧ Below w.heap.size w w' := by
  have c1 := fun W => eget_any b W hb
  have HG : Hid (∀ k, gotG (k, b) = if k = 2 then (zeroE, 7) else if k = 3 then (zeroE, 11) else if (getE b).2 = 0 then ((getE b).1, 0) else (zeroE, 2)) := fun _ => rfl
  generalize hg : gotG (k, b) = G
  have HG2 : Hid (G = if k = 2 then (zeroE, 7) else if k = 3 then (zeroE, 11) else if (getE b).2 = 0 then ((getE b).1, 0) else (zeroE, 2)) := by show G = _; rw [← hg]; exact HG.out k
  clear hg HG
  generalize getE b = E at *
  obtain ⟨⟨ek, er, es, et, ⟨s6, n, ln⟩, ⟨ak, ai⟩, ei, ee⟩, y⟩ := E
  unfold evV evC at c1
  simp only at c1
  have HEQ : Hid (gtV (⟨ek, er, es, et, ⟨s6, n, ln⟩, ⟨ak, ai⟩, ei, ee⟩, 0) = .agg #[.int .u8 (ek : Int), .int .i64 er, .int .u64 (es : Int), .int .i64 et, .bool s6, .int .u64 (hiN n : Int), .int .u64 (loN n : Int), .int .i64 ln, .int .u8 (ak : Int), .int .i64 ai, .int .i64 ei, .int .i64 ee, .int .i64 0]) := rfl
  generalize hh : hiN n = nh at *
  generalize hh2 : loN n = nl at *
  clear hh hh2
  unfold pcV
  obtain ⟨X, hX⟩ : ∃ X, X = (w.alloc (.cells #[.int .u8 (k : Int), .string ⟨b.toArray⟩] 70)).alloc (.cells #[.int .u8 0, .int .i64 0, .int .u64 0, .int .i64 0, .bool false, .int .u64 0, .int .u64 0, .int .i64 0, .int .u8 0, .int .i64 0, .int .i64 0, .int .i64 0, .int .i64 0] 52) := ⟨_, rfl⟩
  have hB : Below w.heap.size w X := by rw [hX]; exact below_new (below_new (Below.refl _ _) _) _
  have rx : RowAt X (w.heap.size + 1) [.int .u8 0, .int .i64 0, .int .u64 0, .int .i64 0, .bool false, .int .u64 0, .int .u64 0, .int .i64 0, .int .u8 0, .int .i64 0, .int .i64 0, .int .i64 0, .int .i64 0] 52 := by rw [hX, ← World.size_alloc w (.cells #[.int .u8 (k : Int), .string ⟨b.toArray⟩] 70)]; exact RowAt.new _ _ _
  have rp : RowAt X w.heap.size [.int .u8 (k : Int), .string ⟨b.toArray⟩] 70 := by rw [hX]; exact (RowAt.new _ _ _).alloc _
  go_enter Try.func25, Try.ntmps25
  go_upto_region 1 with fail
  rw [← hX]
  clear hX
  obtain ⟨r0, r1, rf⟩ := cells2 rp
  by_cases h2 : k = 2
  · subst h2
    have e : G = (zeroE, 7) := HG2.out
    clear HG2 c1
    obtain ⟨⟨y0, y1, y2, y3, y4, y5⟩, ⟨y6, y7, y8, y9, y10, y11, y12⟩, yf, yl⟩ := cells13 rx
    clear rx rp
    go_wp2_with fail
    refine bodyPost_ret (v := .agg #[.int .u8 0, .int .i64 0, .int .u64 0, .int .i64 0, .bool false, .int .u64 0, .int .u64 0, .int .i64 0, .int .u8 0, .int .i64 0, .int .i64 0, .int .i64 0, .int .i64 7]) ?_ rfl ⟨by rw [e, gtV_z], ?_⟩
    · rw [results_cell rfl]
      go_simp
    · repeat' (first | with_reducible exact hB | with_reducible refine bset ?_ (by omega))
  · have n2 : ((k : Int) == 2) = false := by simp; omega
    by_cases h3 : k = 3
    · subst h3
      have e : G = (zeroE, 11) := HG2.out
      clear HG2 c1
      obtain ⟨⟨y0, y1, y2, y3, y4, y5⟩, ⟨y6, y7, y8, y9, y10, y11, y12⟩, yf, yl⟩ := cells13 rx
      clear rx rp
      go_wp2_with fail
      refine bodyPost_ret (v := .agg #[.int .u8 0, .int .i64 0, .int .u64 0, .int .i64 0, .bool false, .int .u64 0, .int .u64 0, .int .i64 0, .int .u8 0, .int .i64 0, .int .i64 0, .int .i64 0, .int .i64 11]) ?_ rfl ⟨by rw [e, gtV_z], ?_⟩
      · rw [results_cell rfl]
        go_simp
      · repeat' (first | with_reducible exact hB | with_reducible refine bset ?_ (by omega))
    · have n3 : ((k : Int) == 3) = false := by simp; omega
      have e := HG2.out
      rw [if_neg h2, if_neg h3] at e
      clear HG2
      have hlx := RowAt.lt rx
      go_wp2_with fail
      go_at_call 41; refine (c1 _).mono ?_; rintro e w1 ⟨rfl, hb1⟩
      go_upto_region 7 with fail
      obtain ⟨Y, hY⟩ : ∃ Y, Y = w1.alloc (.cells #[.int .u8 (ek : Int), .int .i64 er, .int .u64 (es : Int), .int .i64 et, .bool s6, .int .u64 (nh : Int), .int .u64 (nl : Int), .int .i64 ln, .int .u8 (ak : Int), .int .i64 ai, .int .i64 ei, .int .i64 ee] 50) := ⟨_, rfl⟩
      have hbY : Below w1.heap.size w1 Y := by rw [hY]; exact below_new (Below.refl _ _) _
      have tY : RowAt Y w1.heap.size [.int .u8 (ek : Int), .int .i64 er, .int .u64 (es : Int), .int .i64 et, .bool s6, .int .u64 (nh : Int), .int .u64 (nl : Int), .int .i64 ln, .int .u8 (ak : Int), .int .i64 ai, .int .i64 ei, .int .i64 ee] 50 := by rw [hY]; exact RowAt.new _ _ _
      rw [← hY]
      replace rx := RowAt.below (RowAt.below rx hb1) hbY
      replace hB := below2 (below2 hB hb1) hbY
      have hgt : w.heap.size + 1 < w1.heap.size := Nat.lt_of_lt_of_le hlx hb1.size
      clear hY hbY hb1 c1 hlx rp r0 r1 rf
      generalize w1.heap.size = t1 at tY hgt ⊢
      obtain ⟨⟨u0, u1, u2, u3, u4, u5⟩, ⟨u6, u7, u8, u9, u10, u11⟩, uf, ul⟩ := cells12 tY
      obtain ⟨⟨y0, y1, y2, y3, y4, y5⟩, ⟨y6, y7, y8, y9, y10, y11, y12⟩, yf, yl⟩ := cells13 rx
      clear tY rx
      by_cases hy : y = 0
      · subst hy
        rw [if_pos rfl] at e
        go_wp2_with fail
        refine bodyPost_ret (v := .agg #[.int .u8 (ek : Int), .int .i64 er, .int .u64 (es : Int), .int .i64 et, .bool s6, .int .u64 (nh : Int), .int .u64 (nl : Int), .int .i64 ln, .int .u8 (ak : Int), .int .i64 ai, .int .i64 ei, .int .i64 ee, .int .i64 0]) ?_ rfl ⟨by rw [e, HEQ.out], ?_⟩
        · rw [results_cell rfl]
          go_simp
        · repeat' (first | with_reducible exact hB | with_reducible refine bset ?_ (by omega))
      · have ny : (y != 0) = true := by simpa using hy
        rw [if_neg hy] at e
        go_wp2_with fail
        refine bodyPost_ret (v := .agg #[.int .u8 0, .int .i64 0, .int .u64 0, .int .i64 0, .bool false, .int .u64 0, .int .u64 0, .int .i64 0, .int .u8 0, .int .i64 0, .int .i64 0, .int .i64 0, .int .i64 2]) ?_ rfl ⟨by rw [e, gtV_z], ?_⟩
        · rw [results_cell rfl]
          go_simp
        · repeat' (first | with_reducible exact hB | with_reducible refine bset ?_ (by omega))
end Go.Proofs.Ytopabkkapbaibaa.Gram
