/- What the document's Same returns of rows of pieces that are one; cutters held against each other; the fixed answers. -/
import Derived.Test.YtkmchoipddaohaaCutFeed
set_option linter.unusedVariables false
namespace Go.Proofs.Ytkmchoipddaohaa.Cut
open Go.RowKit
attribute [-go_sem] Builtin.append_

theorem pc_neq (k : Int) (B : ByteArray) (w : World) : (binOp .neq 38 (.agg #[.int .u8 k, .string B]) (.agg #[.int .u8 k, .string B])).run Try.prog w = .ok (.bool false) w := by
  have u3 := Try.underlying36
  have u9 := Try.underlying9
  have a3 := Try.isAgg36
  have z3 := Try.sizeOf36
  have a9 := Try.isAgg9
  have z9 := Try.sizeOf9
  have hS : Try.prog.underlying 38 = some (.struct (Try.prog.fieldsOf 38)) := by kernel_rfl
  have hp : Try.prog.stoodInHeld 38 = false := by kernel_rfl
  rw [run_neq_struct, show (10000 : Nat) = 9999 + 1 from rfl, run_equalIn_agg w 9999 38 _ _ hS hp]
  simp only [Program.fieldsOf, Try.underlying38]
  go_simp
theorem pc_guard : Try.prog.eqGuardType Try.prog.depth 38 = false := by kernel_rfl
theorem ct_guard : Try.prog.eqGuardType Try.prog.depth 23 = false := by kernel_rfl
theorem ct_eql (B : ByteArray) (b : Bool) (k : Int) (w : World) : (binOp .eql 23 (.agg #[.string B, .bool b, .int .i64 k]) (.agg #[.string B, .bool b, .int .i64 k])).run Try.prog w = .ok (.bool true) w := by
  have u3 := Try.underlying3
  have u9 := Try.underlying9
  have u4 := Try.underlying4
  have a3 := Try.isAgg3
  have z3 := Try.sizeOf3
  have a9 := Try.isAgg9
  have z9 := Try.sizeOf9
  have a4 := Try.isAgg4
  have z4 := Try.sizeOf4
  have hS : Try.prog.underlying 23 = some (.struct (Try.prog.fieldsOf 23)) := by kernel_rfl
  have hp : Try.prog.stoodInHeld 23 = false := by kernel_rfl
  rw [run_eql_struct, show (10000 : Nat) = 9999 + 1 from rfl, run_equalIn_agg w 9999 23 _ _ hS hp]
  simp only [Program.fieldsOf, Try.underlying23]
  go_simp
theorem HasRow.slice {W : World} {v : Value} {sz n : Nat} {cs : List Value} (h : HasRow W v sz n cs) : ∃ o cap, v = .slice o n cap ∧ n ≤ cap ∧ cap ≤ 9223372036854775807 := by
  rcases h.2 with ⟨h0, rfl⟩ | ⟨a, cap, e, h1, h2, h3, h4⟩
  · exact ⟨none, 0, h0, Nat.le_refl _, by omega⟩
  · exact ⟨some a, cap, e, h1, h2⟩
theorem HasRow.at {W : World} {o : Option Addr} {m cap sz n : Nat} {cs : List Value} (h : HasRow W (.slice o m cap) sz n cs) (hn : 0 < n) : m = n ∧ ∃ b i, o = some ⟨b, i, none⟩ ∧ b < W.heap.size ∧ ∀ j, j < n * sz → W.cell? ⟨b, i + j, none⟩ = cs[j]? := by
  rcases h.2 with ⟨h0, h1⟩ | ⟨a, c, e, h1, h2, h3, h4⟩
  · omega
  · injection e with e1 e2 e3
    subst e1
    obtain ⟨b, i, s⟩ := a
    obtain ⟨hs, hlt⟩ := h3 hn
    simp only at hs hlt
    subst hs
    exact ⟨e2, b, i, rfl, hlt, fun j hj => by rw [← h4 j hj, addr_add]⟩
theorem pcCs_at (ps : List PcT) : ∀ j (h : j < ps.length), (pcCs ps)[2 * j]? = some (.int .u8 (ps[j].1 : Int)) ∧ (pcCs ps)[2 * j + 1]? = some (strV ps[j].2) := by
  induction ps with
  | nil => intro j h; simp at h
  | cons p ps ih =>
    intro j h
    cases j with
    | zero => exact ⟨rfl, rfl⟩
    | succ j =>
      have := ih j (by simpa using h)
      rw [show pcCs (p :: ps) = .int .u8 (p.1 : Int) :: strV p.2 :: pcCs ps from rfl, show 2 * (j + 1) = 2 * j + 1 + 1 by omega]
      simp only [List.getElem?_cons_succ, List.getElem_cons_succ]
      exact this
theorem HasPcs.cell {W : World} {o : Option Addr} {m cap : Nat} {ps : List PcT} (h : HasPcs W (.slice o m cap) ps) (j : Nat) (hj : j < ps.length) : ∃ b i, o = some ⟨b, i, none⟩ ∧ b < W.heap.size ∧ W.cell? ⟨b, i + j * 2, none⟩ = some (.int .u8 (ps[j].1 : Int)) ∧ W.cell? ⟨b, i + j * 2 + 1, none⟩ = some (strV ps[j].2) := by
  obtain ⟨_, b, i, e, hb, hc⟩ := HasRow.at h (by omega)
  have h2 := pcCs_at ps j hj
  exact ⟨b, i, e, hb, by rw [hc (j * 2) (by omega), Nat.mul_comm]; exact h2.1, by rw [Nat.add_assoc, hc (j * 2 + 1) (by omega), Nat.mul_comm]; exact h2.2⟩
theorem HasPcs.keep {W W' : World} {v : Value} {zs : List PcT} (h : HasPcs W v zs) (hb : Below W.heap.size W W') : HasPcs W' v zs := HasRow.keep h hb
theorem below_drewN {B : Nat} {w0 w : World} (h : Below B w0 w) (n : Nat) : Below B w0 (w.drewN n) := h.trans ⟨rfl, rfl, rfl, Nat.le_refl _, fun _ _ => rfl⟩
set_option maxHeartbeats 2000000 in
set_option maxRecDepth 20000 in
theorem same_any (ps : List PcT) (v u : Value) (w : World) (h1 : HasPcs w v ps) (h2 : HasPcs w u ps) (hl : ps.length ≤ 10000000000000) :
    Calls Try.prog 14 #[v, u] w fun e w' => e = .returned (.bool true) ∧ Below w.heap.size w w' := by
  obtain ⟨o1, c1, rfl, _, _⟩ := HasRow.slice h1
  obtain ⟨o2, c2, rfl, _, _⟩ := HasRow.slice h2
  have HR : Hid (∀ wr, Below w.heap.size w wr → HasPcs wr (.slice o1 ps.length c1) ps ∧ HasPcs wr (.slice o2 ps.length c2) ps) := fun wr hb => ⟨h1.keep hb, h2.keep hb⟩
  obtain ⟨n, hn⟩ : ∃ n, n = ps.length := ⟨_, rfl⟩
  have HN : Hid (n = ps.length) := hn
  rw [← hn] at HR hl ⊢
  have hni : (n : Int) ≤ 10000000000000 := by omega
  have hneq := pc_neq
  have hgd := pc_guard
  have hnn : ((n : Int) != (n : Int)) = false := by simp
  clear h1 h2 hl hn
  go_enter Try.func14, Try.ntmps14
  go_wp2_with fail
  go_loopw [13] (fun i wr => ∃ k : Nat, k ≤ n ∧ i = .int .i64 k ∧ Below w.heap.size w wr) (fun i _ => n - (intOf i).toNat)
  case atStart => exact ⟨0, by omega, rfl, Below.refl _ _⟩
  case round =>
    obtain ⟨k, hk, rfl, hB⟩ := hrel
    obtain ⟨ha, hb⟩ := HR.out _ hB
    by_cases hlt : k < n
    · have hkz : k < ps.length := by rw [← HN.out]; exact hlt
      obtain ⟨g1, i1, rfl, _, a1, a2⟩ := HasPcs.cell ha k hkz
      obtain ⟨g2, i2, rfl, _, b1, b2⟩ := HasPcs.cell hb k hkz
      unfold strV at a2 b2
      generalize (⟨(ps[k]).2.toArray⟩ : ByteArray) = Z at a2 b2
      generalize (((ps[k]).1 : Nat) : Int) = pa at a1 b1
      have hki : (k : Int) < (n : Int) := by omega
      clear ha hb
      go_wp2_with fail
      go_quiet (fail)
      go_wp2_with fail
      go_roundw
      case rel => exact ⟨k + 1, by omega, by go_num, by first | exact hB | exact below_drew hB | exact below_drewN hB _⟩
      case measure => simp [intOf]; omega
    · clear ha hb
      go_wp2
      go_ret
      exact ⟨rfl, hB⟩
theorem has_lit (W : World) (ps : List PcT) (n : Nat) (hn : n = ps.length) (hm : n ≤ 1000) (cs : Array Value) (hc : cs = (pcCs ps).toArray) : HasPcs (W.alloc (.cells cs 38)) (.slice (some ⟨W.heap.size, 0, none⟩) n n) ps := by
  subst hn hc
  refine ⟨pcCs_len ps, .inr ⟨⟨W.heap.size, 0, none⟩, ps.length, rfl, Nat.le_refl _, by omega, fun _ => ⟨rfl, by simp⟩, fun j hj => ?_⟩⟩
  rw [addr_add, Nat.zero_add]
  exact (RowAt.new W (pcCs ps) 38).cell j
theorem lv1 : fedC zeroC [0, 0, 245, 0] = (⟨[245, 0], false, 0⟩, [(2, [])]) ∧ checkC zeroC = 0 := ⟨by kernel_rfl, by kernel_rfl⟩
theorem lv2 : fedC ⟨[245, 0], false, 0⟩ [1, 7, 245, 0, 0, 245, 1, 0, 97, 98] = (⟨[], false, 254⟩, [(1, [7]), (3, []), (3, [])]) ∧ checkC ⟨[245, 0], false, 0⟩ = 0 := ⟨by kernel_rfl, by kernel_rfl⟩
theorem lv3 : fedC ⟨[97], false, 0⟩ [98] = (zeroC, []) ∧ checkC ⟨[97], false, 0⟩ = 2 := ⟨by kernel_rfl, by kernel_rfl⟩
set_option maxHeartbeats 4000000 in
set_option maxRecDepth 20000 in
theorem lives_any (w : World) : Calls Try.prog 11 #[] w fun e w' => e = .returned (.bool true) ∧ Below w.heap.size w w' := by
  have c1 : ∀ W : World, Calls Try.prog 7 #[.agg #[.string ⟨#[]⟩, .bool false, .int .i64 0], .string ⟨#[0, 0, 245, 0]⟩] W fun e w' => ∃ V, e = .returned (.tuple #[.agg #[.string ⟨#[245, 0]⟩, .bool false, .int .i64 0], V, .int .i64 0]) ∧ HasPcs w' V [(2, [])] ∧ Below W.heap.size W w' := fun W => by
    have := feed_any zeroC [0, 0, 245, 0] W ⟨by decide, by decide, by decide⟩ (by decide)
    rw [lv1.1, lv1.2] at this
    exact this
  have c2 : ∀ W : World, Calls Try.prog 7 #[.agg #[.string ⟨#[245, 0]⟩, .bool false, .int .i64 0], .string ⟨#[1, 7, 245, 0, 0, 245, 1, 0, 97, 98]⟩] W fun e w' => ∃ V, e = .returned (.tuple #[.agg #[.string ⟨#[]⟩, .bool false, .int .i64 254], V, .int .i64 0]) ∧ HasPcs w' V [(1, [7]), (3, []), (3, [])] ∧ Below W.heap.size W w' := fun W => by
    have := feed_any ⟨[245, 0], false, 0⟩ [1, 7, 245, 0, 0, 245, 1, 0, 97, 98] W ⟨by decide, by decide, by decide⟩ (by decide)
    rw [lv2.1, lv2.2] at this
    exact this
  have c3 : ∀ W : World, Calls Try.prog 7 #[.agg #[.string ⟨#[97]⟩, .bool false, .int .i64 0], .string ⟨#[98]⟩] W fun e w' => ∃ V, e = .returned (.tuple #[.agg #[.string ⟨#[]⟩, .bool false, .int .i64 0], V, .int .i64 2]) ∧ HasPcs w' V [] ∧ Below W.heap.size W w' := fun W => by
    have := feed_any ⟨[97], false, 0⟩ [98] W ⟨by decide, by decide, by decide⟩ (by decide)
    rw [lv3.1, lv3.2] at this
    exact this
  have c4 : ∀ W : World, Calls Try.prog 9 #[.string ⟨#[97, 98]⟩] W fun e w' => e = .returned (.tuple #[.string ⟨#[245, 0, 2, 97, 98]⟩, .int .i64 0]) ∧ Below W.heap.size W w' := fun W => wrap_any [97, 98] W (by decide)
  have c5 : ∀ W : World, Calls Try.prog 9 #[.string ⟨#[]⟩] W fun e w' => e = .returned (.tuple #[.string ⟨#[]⟩, .int .i64 11]) ∧ Below W.heap.size W w' := fun W => wrap_any [] W (by decide)
  have c6 : ∀ W : World, Calls Try.prog 12 #[.agg #[.string ⟨#[245, 0]⟩, .bool false, .int .i64 0]] W fun e w' => e = .returned (.int .i64 0) ∧ Below W.heap.size W w' := fun W => by
    have := check_any ⟨[245, 0], false, 0⟩ W ⟨by decide, by decide, by decide⟩
    rw [lv2.2] at this
    exact this
  have heq := ct_eql
  have hgd := ct_guard
  go_enter Try.func11, Try.ntmps11
  go_wp2_with fail
  go_at_call 7; refine (c1 _).mono ?_; rintro e w1 ⟨V1, rfl, hp1, hb1⟩
  obtain ⟨o1, cp1, rfl, _, _⟩ := HasRow.slice hp1
  go_upto_region 2 with fail
  obtain ⟨X1, hX1⟩ : ∃ X1, X1 = w1.alloc (.cells #[.string ⟨#[245, 0]⟩, .bool false, .int .i64 0] 23) := ⟨_, rfl⟩
  have r1 : RowAt X1 w1.heap.size [.string ⟨#[245, 0]⟩, .bool false, .int .i64 0] 23 := by rw [hX1]; exact RowAt.new _ _ _
  have hbx : Below w1.heap.size w1 X1 := by rw [hX1]; exact below_new (Below.refl _ _) _
  rw [← hX1]
  clear hX1
  replace hp1 := hp1.keep hbx
  replace hb1 := below2 hb1 hbx
  generalize w1.heap.size = g1 at r1 ⊢
  clear hbx
  obtain ⟨x0, x1, x2, xf⟩ := cells3 r1
  go_wp2_with fail
  go_at_call 7; refine (c2 _).mono ?_; rintro e w2 ⟨V2, rfl, hp2, hb2⟩
  obtain ⟨o2, cp2, rfl, _, _⟩ := HasRow.slice hp2
  replace hp1 := hp1.keep hb2
  replace hb1 := below2 hb1 hb2
  replace r1 := r1.below hb2
  clear x0 x1 x2 xf hb2
  go_upto_region 3 with fail
  obtain ⟨X2, hX2⟩ : ∃ X2, X2 = w2.alloc (.cells #[.string ⟨#[]⟩, .bool false, .int .i64 254] 23) := ⟨_, rfl⟩
  have r2 : RowAt X2 w2.heap.size [.string ⟨#[]⟩, .bool false, .int .i64 254] 23 := by rw [hX2]; exact RowAt.new _ _ _
  have hbx : Below w2.heap.size w2 X2 := by rw [hX2]; exact below_new (Below.refl _ _) _
  rw [← hX2]
  clear hX2
  replace hp1 := hp1.keep hbx
  replace hp2 := hp2.keep hbx
  replace hb1 := below2 hb1 hbx
  replace r1 := r1.below hbx
  generalize w2.heap.size = g2 at r2 ⊢
  clear hbx
  go_wp2_with fail
  go_at_call 9; refine (c4 _).mono ?_; rintro e w3 ⟨rfl, hb3⟩
  replace hp1 := hp1.keep hb3
  replace hp2 := hp2.keep hb3
  replace hb1 := below2 hb1 hb3
  replace r1 := r1.below hb3
  replace r2 := r2.below hb3
  clear hb3
  go_wp2_with fail
  go_at_call 9; refine (c5 _).mono ?_; rintro e w4 ⟨rfl, hb3⟩
  replace hp1 := hp1.keep hb3
  replace hp2 := hp2.keep hb3
  replace hb1 := below2 hb1 hb3
  replace r1 := r1.below hb3
  replace r2 := r2.below hb3
  clear hb3
  go_wp2_with fail
  go_at_call 7; refine (c3 _).mono ?_; rintro e w5 ⟨V5, rfl, hp5, hb3⟩
  obtain ⟨o5, cp5, rfl, _, _⟩ := HasRow.slice hp5
  replace hp1 := hp1.keep hb3
  replace hp2 := hp2.keep hb3
  replace hb1 := below2 hb1 hb3
  replace r1 := r1.below hb3
  replace r2 := r2.below hb3
  clear hb3 hp5
  go_upto_region 6 with fail
  obtain ⟨X3, hX3⟩ : ∃ X3, X3 = w5.alloc (.cells #[.string ⟨#[]⟩, .bool false, .int .i64 0] 23) := ⟨_, rfl⟩
  have hbx : Below w5.heap.size w5 X3 := by rw [hX3]; exact below_new (Below.refl _ _) _
  rw [← hX3]
  clear hX3
  replace hp1 := hp1.keep hbx
  replace hp2 := hp2.keep hbx
  replace hb1 := below2 hb1 hbx
  replace r1 := r1.below hbx
  replace r2 := r2.below hbx
  clear hbx c1 c2 c3 c4 c5
  have hlit := has_lit X3 [(2, [])] 1 rfl (by decide) #[.int .u8 2, .string ⟨#[]⟩] rfl
  have hbl := below_new (Below.refl _ X3) (.cells #[.int .u8 2, .string ⟨#[]⟩] 38)
  have cs := same_any [(2, [])] _ _ _ (hp1.keep hbl) hlit (by decide)
  go_wp2_with fail
  go_at_call 14; refine cs.mono ?_; rintro e w6 ⟨rfl, hb6⟩
  replace hb6 := below2 hbl hb6
  replace hp2 := hp2.keep hb6
  replace hb1 := below2 hb1 hb6
  replace r1 := r1.below hb6
  replace r2 := r2.below hb6
  clear hb6 hbl hlit cs hp1
  obtain ⟨x0, x1, x2, xf⟩ := cells3 r1
  have hlit := has_lit w6 [(1, [7]), (3, []), (3, [])] 3 rfl (by decide) #[.int .u8 1, .string ⟨#[7]⟩, .int .u8 3, .string ⟨#[]⟩, .int .u8 3, .string ⟨#[]⟩] rfl
  have hbl := below_new (Below.refl _ w6) (.cells #[.int .u8 1, .string ⟨#[7]⟩, .int .u8 3, .string ⟨#[]⟩, .int .u8 3, .string ⟨#[]⟩] 38)
  have cs := same_any [(1, [7]), (3, []), (3, [])] _ _ _ (hp2.keep hbl) hlit (by decide)
  go_wp2_with fail
  go_at_call 14; refine cs.mono ?_; rintro e w7 ⟨rfl, hb6⟩
  replace hb6 := below2 hbl hb6
  replace hb1 := below2 hb1 hb6
  replace r1 := r1.below hb6
  replace r2 := r2.below hb6
  clear hb6 hbl hlit cs hp2 x0 x1 x2 xf
  obtain ⟨x0, x1, x2, xf⟩ := cells3 r1
  obtain ⟨y0, y1, y2, yf⟩ := cells3 r2
  go_wp2_with fail
  go_at_call 12; refine (c6 _).mono ?_; rintro e w8 ⟨rfl, hb8⟩
  go_wp2_with fail
  go_ret
  exact ⟨rfl, below2 hb1 hb8⟩
end Go.Proofs.Ytkmchoipddaohaa.Cut
