/- What manifest.told returns, for every sector. -/
import Derived.Test.YtajcmgccclemdabManLaid
set_option linter.unusedVariables false
namespace Go.Proofs.Ytajcmgccclemdab.Man
open Go.RowKit
open Go.Proofs.Ytajcmgccclemdab.Page
open Go.Proofs.Ytajcmgccclemdab.Disk (HasRow)
attribute [-go_sem] Builtin.append_

def partAt (s : List UInt8) (k : Nat) : PartT := ((numL 0 ((s.drop (9 + 13 * k)).take 1) : Int), numL 0 ((s.drop (9 + 13 * k + 1)).take 8), (numL 0 ((s.drop (9 + 13 * k + 9)).take 4) : Int) - 1)
def cntM (s : List UInt8) : Nat := min (numL 0 ((s.drop 8).take 1)) 8
def toldM (s : List UInt8) : ManT := (numL 0 (s.take 8), (List.range (cntM s)).map (partAt s))
theorem num1 (l : List UInt8) : numL 0 (l.take 1) < 256 := by
  cases l with
  | nil => simp [numL]
  | cons b l => have := b.toNat_lt; simp [numL]; omega
theorem num4 (l : List UInt8) : numL 0 (l.take 4) < 4294967296 := by
  have h1 := numL_lt' (l.take 4) 0
  have : 256 ^ (l.take 4).length ≤ 256 ^ 4 := Nat.pow_le_pow_right (by decide) (by rw [List.length_take]; omega)
  omega
theorem num8 (l : List UInt8) : numL 0 (l.take 8) < 18446744073709551616 := by
  have h1 := numL_lt' (l.take 8) 0
  have : 256 ^ (l.take 8).length ≤ 256 ^ 8 := Nat.pow_le_pow_right (by decide) (by rw [List.length_take]; omega)
  omega
theorem toldM_fit (s : List UInt8) : FitM (toldM s) := by
  refine ⟨num8 s, fun p hp => ?_⟩
  obtain ⟨k, _, rfl⟩ := List.mem_map.1 hp
  have h1 := num1 (s.drop (9 + 13 * k))
  have h2 := num8 (s.drop (9 + 13 * k + 1))
  have h3 := num4 (s.drop (9 + 13 * k + 9))
  unfold FitP partAt
  simp only
  omega
theorem info_part : (Try.prog.info? 54).map (fun i => (i.zero, i.size, i.bytes)) = some (some (.agg #[.int .i64 0, .int .u64 0, .int .i64 0]), 3, 24) := by kernel_rfl
theorem append_part {W : World} {n₀ k : Nat} {v : Value} {xs : List Value} (p : PartT) (hown : W.ownsRow n₀ 54 3 v k xs) (hk : k ≤ 1000000) (hn : n₀ ≤ W.heap.size) :
    ∃ g cap w3, (∀ ty, (Builtin.append_ #[55, 55] ty #[v, .slice (some ⟨W.heap.size, 0, none⟩) 1 1]).run Try.prog (W.alloc (.cells #[.int .i64 p.1, .int .u64 (p.2.1 : Int), .int .i64 p.2.2] 54)) = .ok (.slice (some ⟨g, 0, none⟩) (k + 1) cap) w3) ∧
      w3.ownsRow n₀ 54 3 (.slice (some ⟨g, 0, none⟩) (k + 1) cap) (k + 1) (xs ++ partC p) ∧ (W.alloc (.cells #[.int .i64 p.1, .int .u64 (p.2.1 : Int), .int .i64 p.2.2] 54)).grownBy w3 v.ownBlock := by
  obtain ⟨i0, hi, hz0, hz1, hz2⟩ := info_parts info_part
  have hrow := RowAt.new W (partC p) 54
  have h := fun ty => run_append_own (P := Try.prog) (W.alloc (.cells #[.int .i64 p.1, .int .u64 (p.2.1 : Int), .int .i64 p.2.2] 54)) n₀ 55 ty 54 i0 (.agg #[.int .i64 0, .int .u64 0, .int .i64 0]) 3 24 Try.underlying55 hi hz0 hz1 hz2 rfl (by decide) v k xs (hown.alloc _) ⟨W.heap.size, 0, none⟩ 1 1 (partC p) rfl
    (by intro j u hj; rw [addr_add, Nat.zero_add]; exact (hrow.cell j).trans hj) (by intro u hu; simp only [partC, List.mem_cons, List.not_mem_nil, or_false] at hu; rcases hu with rfl | rfl | rfl <;> rfl) (by unfold maxLen; omega) (by omega) (by simp; omega)
  obtain ⟨v', w3, hrun, h1, h2, h3⟩ := h 0
  obtain ⟨g, cap, rfl⟩ : ∃ g cap, v' = .slice (some ⟨g, 0, none⟩) (k + 1) cap := by
    rcases h1.2 with ⟨_, h0⟩ | ⟨g, cap, cur, e, _⟩
    · omega
    · exact ⟨g, cap, e⟩
  exact ⟨g, cap, w3, fun ty => hrun, h1, h2⟩
theorem own_kept {W W' : World} {n₀ e sz k B : Nat} {v : Value} {xs : List Value} (h : W.ownsRow n₀ e sz v k xs) (hg : W.grownBy W' (some B)) (hB : B < n₀) : W'.ownsRow n₀ e sz v k xs := by
  refine h.kept hg ?_
  rcases h.2 with ⟨rfl, _⟩ | ⟨g, cap, cur, rfl, hb, _⟩
  · exact .inl rfl
  · exact .inr (by simp [Value.ownBlock]; omega)
theorem own_ne {W : World} {m e size k b : Nat} {v : Value} {xs : List Value} (h : W.ownsRow m e size v k xs) (hb : b < m) : some b ≠ v.ownBlock := by
  rcases h.2 with ⟨rfl, _⟩ | ⟨g, cap, cur, rfl, hg, _⟩
  · simp [Value.ownBlock]
  · intro e
    obtain rfl : b = g := by simpa [Value.ownBlock] using e
    omega
theorem grown_below {n : Nat} {w W W' : World} {m e size k : Nat} {v : Value} {xs : List Value} (h : Below n w W) (hn : n ≤ W.heap.size) (hnm : n ≤ m) (hr : W.ownsRow m e size v k xs) (hg : W.grownBy W' v.ownBlock) : Below n w W' :=
  h.grown hg hn (fun j ej => by
    rcases hr.2 with ⟨rfl, _⟩ | ⟨g, cap, cur, rfl, hb, _⟩
    · simp [Value.ownBlock] at ej
    · obtain rfl : g = j := by simpa [Value.ownBlock] using ej
      omega)
theorem rowAt_kept {W W' : World} {g : Nat} {cs : List Value} {t : TypeId} {r : Option Nat} (h : RowAt W g cs t) (hg : W.grownBy W' r) (hne : some g ≠ r) : RowAt W' g cs t := (hg.block g h.lt hne).trans h
/-- a row of memory that a call made -/
def NewIn (w : World) (v : Value) : Prop := ∀ a n c, v = .slice (some a) n c → w.heap.size ≤ a.block
set_option maxRecDepth 20000 in
set_option maxHeartbeats 4000000 in
theorem told_own (s : List UInt8) (w : World) (hs : s.length = 128) :
    Calls Try.prog 88 #[.string ⟨s.toArray⟩] w fun e w' => ∃ v, e = .returned (.agg #[.int .u64 ((toldM s).1 : Int), v]) ∧ (HasParts w' v (toldM s).2 ∧ NewIn w v) ∧ Below w.heap.size w w' := by
  have HTM : Hid (toldM s = (numL 0 ((s.drop 0).take 8), (List.range (cntM s)).map (partAt s))) := rfl
  obtain ⟨X, hX⟩ : ∃ X, X = (w.alloc (.cells #[.int .u64 0, .slice none 0 0] 57)).alloc (.cells (List.replicate 128 zero8 ++ [Value.int .i64 0]).toArray 142) := ⟨_, rfl⟩
  have hB0 : Below w.heap.size w X := by rw [hX]; exact ((Below.refl _ w).alloc (Nat.le_refl _) _).alloc (by simp) _
  have mb : MBox X w.heap.size 0 (.slice none 0 0) := by rw [hX]; exact RowAt.alloc (RowAt.new w [_, _] _) _
  have sc : Sec X (w.heap.size + 1) (padL []) 0 := by
    have := sec_new (w.alloc (.cells #[.int .u64 0, .slice none 0 0] 57))
    rw [World.size_alloc, ← hX] at this
    exact this
  have hcp := copyS sc s 0 128 (by omega) (by rw [List.length_append, cellsL_len, padL_len (by simp)]; simp; omega)
  have hrow : (cellsL (padL []) ++ [Value.int .i64 ((0 : Nat) : Int)]).take 0 ++ cellsL s ++ (cellsL (padL []) ++ [Value.int .i64 ((0 : Nat) : Int)]).drop (0 + s.length) = cellsL s ++ [Value.int .i64 ((0 : Nat) : Int)] := by
    rw [List.take_zero, List.nil_append, List.drop_append, cellsL_len, padL_len (by simp), hs, List.drop_of_length_le (by rw [cellsL_len, padL_len (by simp)]; omega)]
    rfl
  rw [hrow] at hcp
  obtain ⟨X1, hX1⟩ : ∃ X1, X1 = X.setRow (w.heap.size + 1) (cellsL s ++ [Value.int .i64 ((0 : Nat) : Int)]).toArray := ⟨_, rfl⟩
  rw [← hX1] at hcp
  have sc1 : Sec X1 (w.heap.size + 1) s 0 := by rw [hX1]; exact RowAt.set sc _
  have mb1 : MBox X1 w.heap.size 0 (.slice none 0 0) := by rw [hX1]; exact RowAt.other mb (by omega) _
  have hB1 : Below w.heap.size w X1 := by rw [hX1]; exact below_setRow hB0 (by omega) _
  have hzs := zeroSec
  obtain ⟨Zs, hZs⟩ : ∃ Zs, Zs = List.replicate 128 zero8 ++ [Value.int .i64 0] := ⟨_, rfl⟩
  rw [← hZs] at hzs hX
  have hlen : (⟨s.toArray⟩ : ByteArray).size = s.length := size_list s
  rw [hs] at hcp
  generalize (⟨s.toArray⟩ : ByteArray) = S at hcp ⊢
  clear hZs hX1 hrow hlen
  go_enter Try.func88, Try.ntmps88
  go_wp2_with fail
  rw [← hX, hcp]
  clear hX hcp sc mb hB0 hzs
  go_wp2_with fail
  go_at_call 103; refine (stake_any (w.heap.size + 1) 8 0 s X1 sc1 hs (by omega) (by omega)).mono ?_; rintro e2 w1 ⟨rfl, sc2, hg1⟩
  have hB2 := below_grown hB1 hB1.size (by omega) hg1
  have mb2 := mb1.grown hg1 (by omega)
  obtain ⟨E, hE⟩ : ∃ E, E = numL 0 ((s.drop 0).take 8) := ⟨_, rfl⟩
  have HE : Hid (toldM s = (E, (List.range (cntM s)).map (partAt s))) := by show _ = _; rw [HTM.out, hE]
  rw [← hE]
  obtain ⟨Y, hY⟩ : ∃ Y, Y = w1.alloc (.cells #[.int .u64 (E : Int), .slice none 0 0] 57) := ⟨_, rfl⟩
  have hbY : Below w1.heap.size w1 Y := by rw [hY]; exact (Below.refl _ _).alloc (Nat.le_refl _) _
  have mY : MBox Y w1.heap.size E (.slice none 0 0) := by rw [hY]; exact RowAt.new w1 [_, _] _
  have rY : MBox Y w.heap.size 0 (.slice none 0 0) := RowAt.below mb2 hbY
  have sY : Sec Y (w.heap.size + 1) s 8 := RowAt.below sc2 hbY
  have hBY := below2 hB2 hbY
  obtain ⟨M, hM⟩ : ∃ M, M = w1.heap.size := ⟨_, rfl⟩
  have hM2 : w.heap.size + 2 ≤ M := by have := RowAt.lt sc2; omega
  have hYs : M + 1 ≤ Y.heap.size := by rw [hY, hM]; simp
  rw [← hM] at mY
  clear sc1 hB1 mb1 hg1 sc2 hB2 mb2 hE hbY
  go_upto_region 4 with fail
  rw [← hY, ← hM]
  clear hY hM
  go_wp2_with fail
  go_at_call 103; refine (stake_any (w.heap.size + 1) 1 8 s Y sY hs (by omega) (by omega)).mono ?_; rintro e2 w2 ⟨rfl, sc3, hg2⟩
  have hB3 := below_grown hBY hBY.size (by omega) hg2
  have m3 := mY.grown hg2 (by omega)
  have r3 := rY.grown hg2 (by omega)
  have hs3 : M + 1 ≤ w2.heap.size := Nat.le_trans hYs hg2.size
  have hc1 := num1 (s.drop 8)
  have HCN : Hid (cntM s = min (numL 0 ((s.drop 8).take 1)) 8) := rfl
  generalize numL 0 ((s.drop 8).take 1) = C at hc1 HCN ⊢
  obtain ⟨n, hn⟩ : ∃ n, n = min C 8 := ⟨_, rfl⟩
  have hni : min (C : Int) 8 = (n : Int) := by omega
  have hn8 : n ≤ 8 := by omega
  have HN : Hid (cntM s = n) := by show _ = _; rw [HCN.out, hn]
  clear hn HCN sY mY rY hBY hg2 hYs
  obtain ⟨m0, m1⟩ := m3.cells
  go_wp2_with fail
  go_loopw [16] (fun i wr => ∃ (k : Nat) (V : Value), k ≤ n ∧ i = .int .u64 k ∧ Sec wr (w.heap.size + 1) s (9 + 13 * k) ∧ MBox wr M E V ∧ MBox wr w.heap.size 0 (.slice none 0 0) ∧ Hid (wr.ownsRow (M + 1) 54 3 V k (partCs ((List.range k).map (partAt s)))) ∧ Below w.heap.size w wr ∧ M + 1 ≤ wr.heap.size) (fun i _ => n - (intOf i).toNat)
  case atStart => exact ⟨0, _, by omega, rfl, sc3, m3, r3, (World.ownsRow_nil _ _ _ _ : World.ownsRow _ _ _ _ _ _ _), hB3, hs3⟩
  case round =>
    obtain ⟨k, V, hk, rfl, sr, mr, rr, HO, hB, hsz⟩ := hrel
    clear m0 m1
    by_cases hlt : k < n
    · have HP : Hid (partAt s k = ((numL 0 ((s.drop (9 + 13 * k)).take 1) : Int), numL 0 ((s.drop (9 + 13 * k + 1)).take 8), (numL 0 ((s.drop (9 + 13 * k + 9)).take 4) : Int) - 1)) := rfl
      have t1 := num1 (s.drop (9 + 13 * k))
      have t2 := num8 (s.drop (9 + 13 * k + 1))
      have t3 := num4 (s.drop (9 + 13 * k + 9))
      have cA := stake_any (w.heap.size + 1) 1 (9 + 13 * k) s wr sr hs (by omega) (by omega)
      have cB := fun W (h : Sec W (w.heap.size + 1) s (9 + 13 * k + 1)) => stake_any (w.heap.size + 1) 8 (9 + 13 * k + 1) s W h hs (by omega) (by omega)
      have cC := fun W (h : Sec W (w.heap.size + 1) s (9 + 13 * k + 1 + 8)) => stake_any (w.heap.size + 1) 4 (9 + 13 * k + 1 + 8) s W h hs (by omega) (by omega)
      rw [show 9 + 13 * k + 1 + 8 = 9 + 13 * k + 9 by omega] at cC
      obtain ⟨A, hA⟩ : ∃ A, A = numL 0 ((s.drop (9 + 13 * k)).take 1) := ⟨_, rfl⟩
      obtain ⟨T, hT⟩ : ∃ T, T = numL 0 ((s.drop (9 + 13 * k + 1)).take 8) := ⟨_, rfl⟩
      obtain ⟨Q, hQ⟩ : ∃ Q, Q = numL 0 ((s.drop (9 + 13 * k + 9)).take 4) := ⟨_, rfl⟩
      rw [← hA] at cA t1 HP
      rw [← hT] at cB t2 HP
      rw [← hQ] at cC t3 HP
      have HCB : Hid (∀ W (h : Sec W (w.heap.size + 1) s (9 + 13 * k + 1)), Calls Try.prog 103 #[.pointer (some ⟨w.heap.size + 1, 0, none⟩), .int .i64 ((8 : Nat) : Int)] W fun e w' => e = .returned (.int .u64 (T : Int)) ∧ Sec w' (w.heap.size + 1) s (9 + 13 * k + 1 + 8) ∧ W.grownBy w' (some (w.heap.size + 1))) := cB
      have HCC : Hid (∀ W (h : Sec W (w.heap.size + 1) s (9 + 13 * k + 9)), Calls Try.prog 103 #[.pointer (some ⟨w.heap.size + 1, 0, none⟩), .int .i64 ((4 : Nat) : Int)] W fun e w' => e = .returned (.int .u64 (Q : Int)) ∧ Sec w' (w.heap.size + 1) s (9 + 13 * k + 9 + 4) ∧ W.grownBy w' (some (w.heap.size + 1))) := cC
      clear hA hT hQ cB cC
      have ea : IntKind.i64.wrap (A : Int) = (A : Int) := by rw [IntKind.wrap_i64]; omega
      have eq : IntKind.i64.wrap (Q : Int) = (Q : Int) := by rw [IntKind.wrap_i64]; omega
      have eq2 : IntKind.i64.wrap ((Q : Int) - 1) = (Q : Int) - 1 := by rw [IntKind.wrap_i64]; omega
      go_wp2_with fail
      go_at_call 103; refine cA.mono ?_; rintro e2 w3 ⟨rfl, sA, gA⟩
      have bA := below_grown hB hB.size (by omega) gA
      have mA := mr.grown gA (by omega)
      have rA := rr.grown gA (by omega)
      have oA := own_kept HO.out gA (by omega)
      have zA := Nat.le_trans hsz gA.size
      clear cA sr mr rr HO hB hsz gA
      go_wp2_with fail
      go_at_call 103; refine (HCB.out _ sA).mono ?_; rintro e2 w4 ⟨rfl, sB, gB⟩
      have bB := below_grown bA bA.size (by omega) gB
      have mB := mA.grown gB (by omega)
      have rB := rA.grown gB (by omega)
      have oB := own_kept oA gB (by omega)
      have zB := Nat.le_trans zA gB.size
      clear HCB sA mA rA oA bA zA gB
      go_wp2_with fail
      go_at_call 103; refine (HCC.out _ sB).mono ?_; rintro e2 w5 ⟨rfl, sC, gC⟩
      have bC := below_grown bB bB.size (by omega) gC
      have mC := mB.grown gC (by omega)
      have rC := rB.grown gC (by omega)
      have oC := own_kept oB gC (by omega)
      have zC := Nat.le_trans zB gC.size
      clear HCC sB mB rB oB bB zB gC
      obtain ⟨m0, m1⟩ := mC.cells
      obtain ⟨g, cap, w6, hrun, oD, gD⟩ := append_part ((A : Int), T, (Q : Int) - 1) oC (by omega) zC
      have hbal : Below w5.heap.size w5 (w5.alloc (.cells #[.int .i64 (A : Int), .int .u64 (T : Int), .int .i64 ((Q : Int) - 1)] 54)) := (Below.refl _ _).alloc (Nat.le_refl _) _
      have bD : Below w.heap.size w w6 := grown_below (below2 bC hbal) (by have := bC.size; simp; omega) (by omega) (oC.alloc _) gD
      have mD : MBox w6 M E V := rowAt_kept (RowAt.below mC hbal) gD (own_ne oC (by omega))
      have rD : MBox w6 w.heap.size 0 (.slice none 0 0) := rowAt_kept (RowAt.below rC hbal) gD (own_ne oC (by omega))
      have sD : Sec w6 (w.heap.size + 1) s (9 + 13 * k + 9 + 4) := rowAt_kept (RowAt.below sC hbal) gD (own_ne oC (by omega))
      have zD : M + 1 ≤ w6.heap.size := by have := gD.size; simp at this; omega
      have fD := RowAt.frozen mD 1
      obtain ⟨n0, n1⟩ := mD.cells
      have hset : w6.grownBy (w6.setCell ⟨M, 1, none⟩ (.slice (some ⟨g, 0, none⟩) (k + 1) cap)) (some M) := grown_cell _ _ _ _
      have mE : MBox (w6.setCell ⟨M, 1, none⟩ (.slice (some ⟨g, 0, none⟩) (k + 1) cap)) M E (.slice (some ⟨g, 0, none⟩) (k + 1) cap) := by
        unfold MBox at mD ⊢
        rw [mD.setCell]
        exact RowAt.set mD _
      have rE := rD.grown hset (by omega)
      have sE : Sec (w6.setCell ⟨M, 1, none⟩ (.slice (some ⟨g, 0, none⟩) (k + 1) cap)) (w.heap.size + 1) s (9 + 13 * (k + 1)) := by
        rw [show 9 + 13 * (k + 1) = 9 + 13 * k + 9 + 4 by omega]
        exact RowAt.grown' sD hset (by omega)
      have oE : Hid ((w6.setCell ⟨M, 1, none⟩ (.slice (some ⟨g, 0, none⟩) (k + 1) cap)).ownsRow (M + 1) 54 3 (.slice (some ⟨g, 0, none⟩) (k + 1) cap) (k + 1) (partCs ((List.range (k + 1)).map (partAt s)))) := by
        show World.ownsRow _ _ _ _ _ _ _
        have e1 : partCs ((List.range (k + 1)).map (partAt s)) = partCs ((List.range k).map (partAt s)) ++ partC ((A : Int), T, (Q : Int) - 1) := by
          rw [List.range_succ, List.map_append, partCs, List.flatMap_append]
          simp only [List.map_cons, List.map_nil, List.flatMap_cons, List.flatMap_nil, List.append_nil, HP.out]
          rfl
        rw [e1]
        exact own_kept oD hset (by omega)
      have bE := below_grown bD bD.size (by omega) hset
      have zE : M + 1 ≤ (w6.setCell ⟨M, 1, none⟩ (.slice (some ⟨g, 0, none⟩) (k + 1) cap)).heap.size := Nat.le_trans zD hset.size
      simp only at hrun
      clear sC mC rC oC zC bC oD gD hbal mD rD sD bD hset
      go_wp2
      go_roundw
      case rel => exact ⟨k + 1, _, by omega, by go_num, sE, mE, rE, oE, bE, zE⟩
      case measure => simp [intOf]; omega
    · obtain rfl : k = n := by omega
      obtain ⟨oo, cc, rfl⟩ : ∃ oo cc, V = .slice oo k cc := by
        rcases HO.out.2 with ⟨rfl, h0⟩ | ⟨g, cap, cur, rfl, _⟩
        · exact ⟨none, 0, by rw [h0]⟩
        · exact ⟨_, _, rfl⟩
      have HNI : Hid (NewIn w (.slice oo k cc)) := by
        intro a n' c' e
        injection e with e1 _ _
        subst e1
        have := (HO.out.lt a.block rfl).1
        omega
      obtain ⟨m0, m1⟩ := mr.cells
      obtain ⟨r0, r1⟩ := rr.cells
      have f0 := RowAt.frozen rr 0
      have f1 := RowAt.frozen rr 1
      have HRow : Hid (HasParts ((wr.setCell ⟨w.heap.size, 0, none⟩ (.int .u64 (E : Int))).setCell ⟨w.heap.size, 1, none⟩ (.slice oo k cc)) (.slice oo k cc) ((List.range (cntM s)).map (partAt s))) := by
        show HasRow _ _ _ _ _
        rw [HN.out, List.length_map, List.length_range]
        exact Disk.hasRow_own (own_kept (own_kept HO.out (grown_cell _ _ _ _) (by omega)) (grown_cell _ _ _ _) (by omega))
      have hBf : Below w.heap.size w ((wr.setCell ⟨w.heap.size, 0, none⟩ (.int .u64 (E : Int))).setCell ⟨w.heap.size, 1, none⟩ (.slice oo k cc)) := (hB.setCell (p := ⟨w.heap.size, 0, none⟩) (Nat.le_refl _) _).setCell (p := ⟨w.heap.size, 1, none⟩) (Nat.le_refl _) _
      have rF : MBox ((wr.setCell ⟨w.heap.size, 0, none⟩ (.int .u64 (E : Int))).setCell ⟨w.heap.size, 1, none⟩ (.slice oo k cc)) w.heap.size E (.slice oo k cc) := by
        have h1 : RowAt (wr.setCell ⟨w.heap.size, 0, none⟩ (.int .u64 (E : Int))) w.heap.size [.int .u64 (E : Int), .slice none 0 0] 57 := by
          unfold MBox at rr; rw [rr.setCell]; exact RowAt.set rr _
        unfold MBox
        rw [h1.setCell]; exact RowAt.set h1 _
      obtain ⟨x0, x1⟩ := rF.cells
      have y0 : (wr.setCell ⟨w.heap.size, 0, none⟩ (.int .u64 (E : Int))).cell? ⟨w.heap.size, 0, none⟩ = some (.int .u64 (E : Int)) := by
        have h1 : RowAt (wr.setCell ⟨w.heap.size, 0, none⟩ (.int .u64 (E : Int))) w.heap.size [.int .u64 (E : Int), .slice none 0 0] 57 := by
          unfold MBox at rr; rw [rr.setCell]; exact RowAt.set rr _
        exact h1.cell 0
      clear sr mr rr HO hB hsz rF
      go_wp2
      (try simp only [Exit.inBlock, Exit.then])
      refine bodyPost_ret (v := .agg #[.int .u64 (E : Int), .slice oo k cc]) ?_ rfl ⟨_, by rw [HE.out], ⟨by rw [HE.out]; exact HRow.out, HNI.out⟩, hBf⟩
      simp [results, Try.results88, go_sem, x1, y0]
end Go.Proofs.Ytajcmgccclemdab.Man
