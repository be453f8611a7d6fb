/- For all routes, a kind and an address: spoorlaw15.TrieLongest returns true, and changes nothing that was there. No condition. -/
import Derived.Test.YtjgieaijdkmadaaRows
import Derived.Test.YtjgieaijdkmadaaTqF
import Derived.Test.YtjgieaijdkmadaaTqD
import Derived.Test.YtjgieaijdkmadaaTqB
import Derived.Test.YtjgieaijdkmadaaAddrHalves
import Derived.ProofKit
import Derived.OpenShut
import Derived.ShutString
import Derived.SizedLaws
set_option linter.unusedVariables false
namespace Go.Proofs.Ytjgieaijdkmadaa
namespace trieLongest
open Go.ChangeShapes Go.WideShapes Go.ChangeAt Go.RowKit
open Go.ChangeMaps (open_string shut_string)
open Go.Proofs.Ytjgieaijdkmadaa.Tr
open Go.Proofs.Ytjgieaijdkmadaa.Tl (BoolIs lives_any)
open Go.Proofs.Ytjgieaijdkmadaa.Ct (HasAds HasAds.keep cutsT HasAds.cell)
open Go.Proofs.Ytjgieaijdkmadaa.Msg (eqP eqP_iff eqP_not pf_neq pf_eqb Ac FitA)
open Go.Proofs.Ytjgieaijdkmadaa.Addr (Pf pfV adV hasB coversB hiN loN rightB cmpN RowAt below2 below_drew below_new bset RowAt.lt RowAt.cell RowAt.frozen RowAt.below RowAt.drew RowAt.new RowAt.alloc RowAt.gkeep cells2 cells4)
theorem own : ownKnob Try.prog.godebug = none := by kernel_rfl
theorem laidOut : laidOutB Try.prog = true := by kernel_rfl
set_option maxHeartbeats 16000000 in
set_option maxRecDepth 20000 in
theorem walk_bad (six : Bool) (ah al : Int) (xA : Bool) (xB xC xD xE xF : Int) (l : List Rt) (o : Option Addr) (n c : Nat) (w : World) (h0 : HasRts w (.slice o n c) l)
    (c1 : ∀ W v, HasRts W v l → Calls Try.prog 19 #[v, .bool six, .agg #[.int .u64 ah, .int .u64 al]] W fun e w' => e = .returned (.tuple #[.agg #[.bool xA, .int .u64 xB, .int .u64 xC, .int .i64 xD, .int .u8 xE, .int .i64 xF], .int .i64 2]) ∧ Below W.heap.size W w') (c2 : ∀ W v, HasRts W v l → Calls Try.prog 16 #[v] W fun e w' => e = .returned (.int .i64 2) ∧ Below W.heap.size W w') (c3 : ∀ W, Calls Try.prog 24 #[.bool six, .agg #[.int .u64 ah, .int .u64 al]] W fun e w' => e = .returned (.bool false) ∧ Below W.heap.size W w') :
    Calls Try.prog 6 #[.slice o n c, .bool six, .agg #[.int .u64 ah, .int .u64 al]] w (BoolIs true w) := by
  have hB := Below.refl w.heap.size w
  go_enter Try.func6, Try.ntmps6
  obtain ⟨Y1, hY⟩ : ∃ Y, Y = (w.alloc (.cells #[.int .u64 ah, .int .u64 al] 25)) := ⟨_, rfl⟩
  have hbY : Below w.heap.size w Y1 := by rw [hY]; exact below_new (Below.refl _ _) _
  have hle : w.heap.size ≤ w.heap.size := hB.size
  obtain ⟨ga, hga⟩ : ∃ g, g = w.heap.size := ⟨_, rfl⟩
  have ra : RowAt Y1 ga [.int .u64 ah, .int .u64 al] 25 := by
    have h := RowAt.new w [.int .u64 ah, .int .u64 al] 25
    rw [hga, hY]; exact h
  have lea : w.heap.size ≤ ga := by omega
  replace h0 := h0.keep hbY
  replace hB := below2 hB hbY
  go_upto_region 1 with fail
  rw [← hY, ← hga]
  clear hY hbY hle hga
  go_wp2_with fail
  go_at_call 15; refine (lives_any _).mono ?_; rintro e w2 ⟨rfl, hb⟩
  replace ra := RowAt.below ra hb
  replace h0 := h0.keep hb
  replace hB := below2 hB hb
  clear hb
  obtain ⟨a0, a1, af⟩ := cells2 ra
  go_wp2_with fail
  clear a0 a1 af
  go_at_call 19; refine (c1 _ _ h0).mono ?_; rintro e w3 ⟨rfl, hb⟩
  replace ra := RowAt.below ra hb
  replace h0 := h0.keep hb
  replace hB := below2 hB hb
  clear hb
  obtain ⟨Y4, hY⟩ : ∃ Y, Y = (w3.alloc (.cells #[.bool xA, .int .u64 xB, .int .u64 xC, .int .i64 xD, .int .u8 xE, .int .i64 xF] 32)) := ⟨_, rfl⟩
  have hbY : Below w3.heap.size w3 Y4 := by rw [hY]; exact below_new (Below.refl _ _) _
  have hle : w.heap.size ≤ w3.heap.size := hB.size
  obtain ⟨gx, hgx⟩ : ∃ g, g = w3.heap.size := ⟨_, rfl⟩
  have rx : RowAt Y4 gx [.bool xA, .int .u64 xB, .int .u64 xC, .int .i64 xD, .int .u8 xE, .int .i64 xF] 32 := by
    have h := RowAt.new w3 [.bool xA, .int .u64 xB, .int .u64 xC, .int .i64 xD, .int .u8 xE, .int .i64 xF] 32
    rw [hgx, hY]; exact h
  have lex : w.heap.size ≤ gx := by omega
  have neax : ga ≠ gx := by have := RowAt.lt ra; omega
  replace ra := RowAt.below ra hbY
  replace h0 := h0.keep hbY
  replace hB := below2 hB hbY
  go_upto_region 4 with fail
  rw [← hY, ← hgx]
  clear hY hbY hle hgx
  go_wp2_with fail
  go_at_call 16; refine (c2 _ _ h0).mono ?_; rintro e w5 ⟨rfl, hb⟩
  replace ra := RowAt.below ra hb
  replace rx := RowAt.below rx hb
  replace h0 := h0.keep hb
  replace hB := below2 hB hb
  clear hb
  go_wp2_with fail
  go_ret
  exact ⟨rfl, hB⟩
set_option maxHeartbeats 16000000 in
set_option maxRecDepth 20000 in
theorem walk_bad2 (six : Bool) (ah al : Int) (xA : Bool) (xB xC xD xE xF : Int) (l : List Rt) (o : Option Addr) (n c : Nat) (w : World) (h0 : HasRts w (.slice o n c) l)
    (c1 : ∀ W v, HasRts W v l → Calls Try.prog 19 #[v, .bool six, .agg #[.int .u64 ah, .int .u64 al]] W fun e w' => e = .returned (.tuple #[.agg #[.bool xA, .int .u64 xB, .int .u64 xC, .int .i64 xD, .int .u8 xE, .int .i64 xF], .int .i64 2]) ∧ Below W.heap.size W w') (c2 : ∀ W v, HasRts W v l → Calls Try.prog 16 #[v] W fun e w' => e = .returned (.int .i64 2) ∧ Below W.heap.size W w') :
    Calls Try.prog 6 #[.slice o n c, .bool six, .agg #[.int .u64 ah, .int .u64 al]] w (BoolIs true w) := by
  have hB := Below.refl w.heap.size w
  go_enter Try.func6, Try.ntmps6
  obtain ⟨Y1, hY⟩ : ∃ Y, Y = (w.alloc (.cells #[.int .u64 ah, .int .u64 al] 25)) := ⟨_, rfl⟩
  have hbY : Below w.heap.size w Y1 := by rw [hY]; exact below_new (Below.refl _ _) _
  have hle : w.heap.size ≤ w.heap.size := hB.size
  obtain ⟨ga, hga⟩ : ∃ g, g = w.heap.size := ⟨_, rfl⟩
  have ra : RowAt Y1 ga [.int .u64 ah, .int .u64 al] 25 := by
    have h := RowAt.new w [.int .u64 ah, .int .u64 al] 25
    rw [hga, hY]; exact h
  have lea : w.heap.size ≤ ga := by omega
  replace h0 := h0.keep hbY
  replace hB := below2 hB hbY
  go_upto_region 1 with fail
  rw [← hY, ← hga]
  clear hY hbY hle hga
  go_wp2_with fail
  go_at_call 15; refine (lives_any _).mono ?_; rintro e w2 ⟨rfl, hb⟩
  replace ra := RowAt.below ra hb
  replace h0 := h0.keep hb
  replace hB := below2 hB hb
  clear hb
  obtain ⟨a0, a1, af⟩ := cells2 ra
  go_wp2_with fail
  clear a0 a1 af
  go_at_call 19; refine (c1 _ _ h0).mono ?_; rintro e w3 ⟨rfl, hb⟩
  replace ra := RowAt.below ra hb
  replace h0 := h0.keep hb
  replace hB := below2 hB hb
  clear hb
  obtain ⟨Y4, hY⟩ : ∃ Y, Y = (w3.alloc (.cells #[.bool xA, .int .u64 xB, .int .u64 xC, .int .i64 xD, .int .u8 xE, .int .i64 xF] 32)) := ⟨_, rfl⟩
  have hbY : Below w3.heap.size w3 Y4 := by rw [hY]; exact below_new (Below.refl _ _) _
  have hle : w.heap.size ≤ w3.heap.size := hB.size
  obtain ⟨gx, hgx⟩ : ∃ g, g = w3.heap.size := ⟨_, rfl⟩
  have rx : RowAt Y4 gx [.bool xA, .int .u64 xB, .int .u64 xC, .int .i64 xD, .int .u8 xE, .int .i64 xF] 32 := by
    have h := RowAt.new w3 [.bool xA, .int .u64 xB, .int .u64 xC, .int .i64 xD, .int .u8 xE, .int .i64 xF] 32
    rw [hgx, hY]; exact h
  have lex : w.heap.size ≤ gx := by omega
  have neax : ga ≠ gx := by have := RowAt.lt ra; omega
  replace ra := RowAt.below ra hbY
  replace h0 := h0.keep hbY
  replace hB := below2 hB hbY
  go_upto_region 4 with fail
  rw [← hY, ← hgx]
  clear hY hbY hle hgx
  go_wp2_with fail
  go_at_call 16; refine (c2 _ _ h0).mono ?_; rintro e w5 ⟨rfl, hb⟩
  replace ra := RowAt.below ra hb
  replace rx := RowAt.below rx hb
  replace h0 := h0.keep hb
  replace hB := below2 hB hb
  clear hb
  go_wp2_with fail
  go_ret
  exact ⟨rfl, hB⟩
set_option maxHeartbeats 16000000 in
set_option maxRecDepth 20000 in
theorem walk_off (six : Bool) (ah al : Int) (xA : Bool) (xB xC xD xE xF : Int) (l : List Rt) (o : Option Addr) (n c : Nat) (w : World) (h0 : HasRts w (.slice o n c) l)
    (c1 : ∀ W v, HasRts W v l → Calls Try.prog 19 #[v, .bool six, .agg #[.int .u64 ah, .int .u64 al]] W fun e w' => e = .returned (.tuple #[.agg #[.bool xA, .int .u64 xB, .int .u64 xC, .int .i64 xD, .int .u8 xE, .int .i64 xF], .int .i64 2]) ∧ Below W.heap.size W w') (c2 : ∀ W v, HasRts W v l → Calls Try.prog 16 #[v] W fun e w' => e = .returned (.int .i64 0) ∧ Below W.heap.size W w') (c3 : ∀ W, Calls Try.prog 24 #[.bool six, .agg #[.int .u64 ah, .int .u64 al]] W fun e w' => e = .returned (.bool false) ∧ Below W.heap.size W w') :
    Calls Try.prog 6 #[.slice o n c, .bool six, .agg #[.int .u64 ah, .int .u64 al]] w (BoolIs true w) := by
  have hB := Below.refl w.heap.size w
  go_enter Try.func6, Try.ntmps6
  obtain ⟨Y1, hY⟩ : ∃ Y, Y = (w.alloc (.cells #[.int .u64 ah, .int .u64 al] 25)) := ⟨_, rfl⟩
  have hbY : Below w.heap.size w Y1 := by rw [hY]; exact below_new (Below.refl _ _) _
  have hle : w.heap.size ≤ w.heap.size := hB.size
  obtain ⟨ga, hga⟩ : ∃ g, g = w.heap.size := ⟨_, rfl⟩
  have ra : RowAt Y1 ga [.int .u64 ah, .int .u64 al] 25 := by
    have h := RowAt.new w [.int .u64 ah, .int .u64 al] 25
    rw [hga, hY]; exact h
  have lea : w.heap.size ≤ ga := by omega
  replace h0 := h0.keep hbY
  replace hB := below2 hB hbY
  go_upto_region 1 with fail
  rw [← hY, ← hga]
  clear hY hbY hle hga
  go_wp2_with fail
  go_at_call 15; refine (lives_any _).mono ?_; rintro e w2 ⟨rfl, hb⟩
  replace ra := RowAt.below ra hb
  replace h0 := h0.keep hb
  replace hB := below2 hB hb
  clear hb
  obtain ⟨a0, a1, af⟩ := cells2 ra
  go_wp2_with fail
  clear a0 a1 af
  go_at_call 19; refine (c1 _ _ h0).mono ?_; rintro e w3 ⟨rfl, hb⟩
  replace ra := RowAt.below ra hb
  replace h0 := h0.keep hb
  replace hB := below2 hB hb
  clear hb
  obtain ⟨Y4, hY⟩ : ∃ Y, Y = (w3.alloc (.cells #[.bool xA, .int .u64 xB, .int .u64 xC, .int .i64 xD, .int .u8 xE, .int .i64 xF] 32)) := ⟨_, rfl⟩
  have hbY : Below w3.heap.size w3 Y4 := by rw [hY]; exact below_new (Below.refl _ _) _
  have hle : w.heap.size ≤ w3.heap.size := hB.size
  obtain ⟨gx, hgx⟩ : ∃ g, g = w3.heap.size := ⟨_, rfl⟩
  have rx : RowAt Y4 gx [.bool xA, .int .u64 xB, .int .u64 xC, .int .i64 xD, .int .u8 xE, .int .i64 xF] 32 := by
    have h := RowAt.new w3 [.bool xA, .int .u64 xB, .int .u64 xC, .int .i64 xD, .int .u8 xE, .int .i64 xF] 32
    rw [hgx, hY]; exact h
  have lex : w.heap.size ≤ gx := by omega
  have neax : ga ≠ gx := by have := RowAt.lt ra; omega
  replace ra := RowAt.below ra hbY
  replace h0 := h0.keep hbY
  replace hB := below2 hB hbY
  go_upto_region 4 with fail
  rw [← hY, ← hgx]
  clear hY hbY hle hgx
  go_wp2_with fail
  go_at_call 16; refine (c2 _ _ h0).mono ?_; rintro e w5 ⟨rfl, hb⟩
  replace ra := RowAt.below ra hb
  replace rx := RowAt.below rx hb
  replace h0 := h0.keep hb
  replace hB := below2 hB hb
  clear hb
  obtain ⟨a0, a1, af⟩ := cells2 ra
  go_wp2_with fail
  clear a0 a1 af
  go_at_call 24; refine (c3 _).mono ?_; rintro e w6 ⟨rfl, hb⟩
  replace ra := RowAt.below ra hb
  replace rx := RowAt.below rx hb
  replace h0 := h0.keep hb
  replace hB := below2 hB hb
  clear hb
  go_wp2_with fail
  go_ret
  exact ⟨rfl, hB⟩
set_option maxHeartbeats 16000000 in
set_option maxRecDepth 20000 in
theorem walk_none (six : Bool) (ah al : Int) (xA : Bool) (xB xC xD xE xF : Int) (aa : Nat) (l : List Rt) (o : Option Addr) (n c : Nat) (w : World) (h0 : HasRts w (.slice o n c) l)
    (c1 : ∀ W v, HasRts W v l → Calls Try.prog 19 #[v, .bool six, .agg #[.int .u64 ah, .int .u64 al]] W fun e w' => e = .returned (.tuple #[.agg #[.bool xA, .int .u64 xB, .int .u64 xC, .int .i64 xD, .int .u8 xE, .int .i64 xF], .int .i64 3]) ∧ Below W.heap.size W w') (hni : (n : Int) ≤ 9223372036854775807) (HN : Hid (n = l.length)) (HX : Hid (∀ r ∈ l, hasB r.pf six aa = false)) (ch : ∀ r ∈ l, ∀ W, Calls Try.prog 25 #[.agg #[.bool r.pf.six, .int .u64 (hiN r.pf.n : Int), .int .u64 (loN r.pf.n : Int), .int .i64 r.pf.len], .bool six, .agg #[.int .u64 ah, .int .u64 al]] W fun e w' => e = .returned (.bool (hasB r.pf six aa)) ∧ Below W.heap.size W w') :
    Calls Try.prog 6 #[.slice o n c, .bool six, .agg #[.int .u64 ah, .int .u64 al]] w (BoolIs true w) := by
  have hB := Below.refl w.heap.size w
  go_enter Try.func6, Try.ntmps6
  obtain ⟨Y1, hY⟩ : ∃ Y, Y = (w.alloc (.cells #[.int .u64 ah, .int .u64 al] 25)) := ⟨_, rfl⟩
  have hbY : Below w.heap.size w Y1 := by rw [hY]; exact below_new (Below.refl _ _) _
  have hle : w.heap.size ≤ w.heap.size := hB.size
  obtain ⟨ga, hga⟩ : ∃ g, g = w.heap.size := ⟨_, rfl⟩
  have ra : RowAt Y1 ga [.int .u64 ah, .int .u64 al] 25 := by
    have h := RowAt.new w [.int .u64 ah, .int .u64 al] 25
    rw [hga, hY]; exact h
  have lea : w.heap.size ≤ ga := by omega
  replace h0 := h0.keep hbY
  replace hB := below2 hB hbY
  go_upto_region 1 with fail
  rw [← hY, ← hga]
  clear hY hbY hle hga
  go_wp2_with fail
  go_at_call 15; refine (lives_any _).mono ?_; rintro e w2 ⟨rfl, hb⟩
  replace ra := RowAt.below ra hb
  replace h0 := h0.keep hb
  replace hB := below2 hB hb
  clear hb
  obtain ⟨a0, a1, af⟩ := cells2 ra
  go_wp2_with fail
  clear a0 a1 af
  go_at_call 19; refine (c1 _ _ h0).mono ?_; rintro e w3 ⟨rfl, hb⟩
  replace ra := RowAt.below ra hb
  replace h0 := h0.keep hb
  replace hB := below2 hB hb
  clear hb
  obtain ⟨Y4, hY⟩ : ∃ Y, Y = (w3.alloc (.cells #[.bool xA, .int .u64 xB, .int .u64 xC, .int .i64 xD, .int .u8 xE, .int .i64 xF] 32)) := ⟨_, rfl⟩
  have hbY : Below w3.heap.size w3 Y4 := by rw [hY]; exact below_new (Below.refl _ _) _
  have hle : w.heap.size ≤ w3.heap.size := hB.size
  obtain ⟨gx, hgx⟩ : ∃ g, g = w3.heap.size := ⟨_, rfl⟩
  have rx : RowAt Y4 gx [.bool xA, .int .u64 xB, .int .u64 xC, .int .i64 xD, .int .u8 xE, .int .i64 xF] 32 := by
    have h := RowAt.new w3 [.bool xA, .int .u64 xB, .int .u64 xC, .int .i64 xD, .int .u8 xE, .int .i64 xF] 32
    rw [hgx, hY]; exact h
  have lex : w.heap.size ≤ gx := by omega
  have neax : ga ≠ gx := by have := RowAt.lt ra; omega
  replace ra := RowAt.below ra hbY
  replace h0 := h0.keep hbY
  replace hB := below2 hB hbY
  go_upto_region 4 with fail
  rw [← hY, ← hgx]
  clear hY hbY hle hgx
  have Hch : Hid (∀ r ∈ l, ∀ W, Calls Try.prog 25 #[.agg #[.bool r.pf.six, .int .u64 (hiN r.pf.n : Int), .int .u64 (loN r.pf.n : Int), .int .i64 r.pf.len], .bool six, .agg #[.int .u64 ah, .int .u64 al]] W fun e w' => e = .returned (.bool (hasB r.pf six aa)) ∧ Below W.heap.size W w') := ch
  clear ch c1
  go_wp2_with fail
  go_loopw [37] (fun i wr => ∃ k : Nat, k ≤ n ∧ i = .int .i64 k ∧ Hid (Below Y4.heap.size Y4 wr)) (fun i _ => n - (Go.RowKit.intOf i).toNat)
  case atStart => exact ⟨0, by omega, rfl, Below.refl _ _⟩
  case round =>
    obtain ⟨k, hk, rfl, HI⟩ := hrel
    by_cases hlt : k < n
    · have hkz : k < l.length := by rw [← HN.out]; exact hlt
      have hbl := HI.out
      obtain ⟨g1, i1, rfl, hgl, ax⟩ := Tr.HasRts.cell (h0.keep hbl) k hkz
      obtain ⟨b0, b1, b2, b3, b4, b5⟩ := six_at ax
      have c2 := Hch.out l[k] (List.getElem_mem hkz)
      have hx := HX.out l[k] (List.getElem_mem hkz)
      clear ax
      generalize hasB l[k].pf six aa = q at c2 hx
      generalize l[k].pf.six = p0 at b0 c2
      generalize ((hiN l[k].pf.n : Nat) : Int) = p1 at b1 c2
      generalize ((loN l[k].pf.n : Nat) : Int) = p2 at b2 c2
      generalize l[k].pf.len = p3 at b3 c2 hx
      generalize ((l[k].act.k : Nat) : Int) = p4 at b4
      generalize l[k].act.i = p5 at b5
      have hki : (k : Int) < (n : Int) := by omega
      obtain ⟨Y, hY⟩ : ∃ Y, Y = wr.alloc (.cells #[.bool p0, .int .u64 p1, .int .u64 p2, .int .i64 p3, .int .u8 p4, .int .i64 p5] 32) := ⟨_, rfl⟩
      have hbY : Below wr.heap.size wr Y := by rw [hY]; exact below_new (Below.refl _ _) _
      have rY : RowAt Y wr.heap.size [.bool p0, .int .u64 p1, .int .u64 p2, .int .i64 p3, .int .u8 p4, .int .i64 p5] 32 := by rw [hY]; exact RowAt.new _ _ _
      go_upto_region 9 with fail
      rw [← hY]
      clear hY b0 b1 b2 b3 b4 b5
      generalize wr.heap.size = gY at rY ⊢
      have hbn : Below Y4.heap.size Y4 Y := below2 hbl hbY
      obtain ⟨y0, y1, y2, y3, y4, y5, yf⟩ := six_of rY
      obtain ⟨a0, a1, af⟩ := cells2 (RowAt.below ra hbn)
      go_wp2_with fail
      go_at_call 25; refine (c2 _).mono ?_; rintro e w9 ⟨rfl, hb9⟩
      have hbm : Below Y4.heap.size Y4 w9 := below2 hbn hb9
      clear y0 y1 y2 y3 y4 y5 yf a0 a1 af c2
      obtain ⟨y0, y1, y2, y3, y4, y5, yf⟩ := six_of (RowAt.below rY hb9)
      obtain ⟨x0, x1, x2, x3, x4, x5, xf⟩ := six_of (RowAt.below rx hbm)
      cases q
      · go_wp2_with fail
        go_roundw
        case rel => exact ⟨k + 1, by omega, by go_num, hbm⟩
        case measure => simp [Go.RowKit.intOf]; omega
      · cases hx
    · have hkn2 : k = n := by omega
      subst hkn2
      have hkd : decide ((k : Int) < (k : Int)) = false := decide_eq_false (by omega)
      have hbl := HI.out
      replace ra := RowAt.below ra hbl
      replace rx := RowAt.below rx hbl
      replace h0 := h0.keep hbl
      replace hB := below2 hB hbl
      clear HI hbl Hch HX
      go_wp2_with fail
      go_ret
      exact ⟨rfl, hB⟩
set_option maxHeartbeats 16000000 in
set_option maxRecDepth 20000 in
theorem walk_some (six : Bool) (ah al : Int) (xA : Bool) (xB xC xD xE xF : Int) (aa : Nat) (yA : Bool) (yB yC yD yE yF : Int) (zy : Int) (D : List Rt) (l : List Rt) (o : Option Addr) (n c : Nat) (w : World) (h0 : HasRts w (.slice o n c) l)
    (c1 : ∀ W v, HasRts W v l → Calls Try.prog 19 #[v, .bool six, .agg #[.int .u64 ah, .int .u64 al]] W fun e w' => e = .returned (.tuple #[.agg #[.bool xA, .int .u64 xB, .int .u64 xC, .int .i64 xD, .int .u8 xE, .int .i64 xF], .int .i64 0]) ∧ Below W.heap.size W w') (hni : (n : Int) ≤ 9223372036854775807) (HN : Hid (n = l.length)) (HX : Hid (∀ r ∈ l, hasB r.pf six aa = true → ¬ (xD < r.pf.len))) (ch : ∀ r ∈ l, ∀ W, Calls Try.prog 25 #[.agg #[.bool r.pf.six, .int .u64 (hiN r.pf.n : Int), .int .u64 (loN r.pf.n : Int), .int .i64 r.pf.len], .bool six, .agg #[.int .u64 ah, .int .u64 al]] W fun e w' => e = .returned (.bool (hasB r.pf six aa)) ∧ Below W.heap.size W w')
    (c4 : ∀ W v, HasRts W v l → Calls Try.prog 11 #[v, .agg #[.bool xA, .int .u64 xB, .int .u64 xC, .int .i64 xD]] W fun e w' => ∃ u, e = .returned (.tuple #[u, .int .i64 0]) ∧ HasRts w' u D ∧ Below W.heap.size W w') (c5 : ∀ W v, HasRts W v D → Calls Try.prog 19 #[v, .bool six, .agg #[.int .u64 ah, .int .u64 al]] W fun e w' => e = .returned (.tuple #[.agg #[.bool yA, .int .u64 yB, .int .u64 yC, .int .i64 yD, .int .u8 yE, .int .i64 yF], .int .i64 zy]) ∧ Below W.heap.size W w')
    (c6 : ∀ W, Calls Try.prog 25 #[.agg #[.bool xA, .int .u64 xB, .int .u64 xC, .int .i64 xD], .bool six, .agg #[.int .u64 ah, .int .u64 al]] W fun e w' => e = .returned (.bool true) ∧ Below W.heap.size W w')
    (HZ : Hid (zy = 3 ∨ (zy = 0 ∧ yD < xD ∧ ∀ W, Calls Try.prog 26 #[.agg #[.bool yA, .int .u64 yB, .int .u64 yC, .int .i64 yD], .agg #[.bool xA, .int .u64 xB, .int .u64 xC, .int .i64 xD]] W fun e w' => e = .returned (.bool true) ∧ Below W.heap.size W w'))) :
    Calls Try.prog 6 #[.slice o n c, .bool six, .agg #[.int .u64 ah, .int .u64 al]] w (BoolIs true w) := by
  have hB := Below.refl w.heap.size w
  go_enter Try.func6, Try.ntmps6
  obtain ⟨Y1, hY⟩ : ∃ Y, Y = (w.alloc (.cells #[.int .u64 ah, .int .u64 al] 25)) := ⟨_, rfl⟩
  have hbY : Below w.heap.size w Y1 := by rw [hY]; exact below_new (Below.refl _ _) _
  have hle : w.heap.size ≤ w.heap.size := hB.size
  obtain ⟨ga, hga⟩ : ∃ g, g = w.heap.size := ⟨_, rfl⟩
  have ra : RowAt Y1 ga [.int .u64 ah, .int .u64 al] 25 := by
    have h := RowAt.new w [.int .u64 ah, .int .u64 al] 25
    rw [hga, hY]; exact h
  have lea : w.heap.size ≤ ga := by omega
  replace h0 := h0.keep hbY
  replace hB := below2 hB hbY
  go_upto_region 1 with fail
  rw [← hY, ← hga]
  clear hY hbY hle hga
  go_wp2_with fail
  go_at_call 15; refine (lives_any _).mono ?_; rintro e w2 ⟨rfl, hb⟩
  replace ra := RowAt.below ra hb
  replace h0 := h0.keep hb
  replace hB := below2 hB hb
  clear hb
  obtain ⟨a0, a1, af⟩ := cells2 ra
  go_wp2_with fail
  clear a0 a1 af
  go_at_call 19; refine (c1 _ _ h0).mono ?_; rintro e w3 ⟨rfl, hb⟩
  replace ra := RowAt.below ra hb
  replace h0 := h0.keep hb
  replace hB := below2 hB hb
  clear hb
  obtain ⟨Y4, hY⟩ : ∃ Y, Y = (w3.alloc (.cells #[.bool xA, .int .u64 xB, .int .u64 xC, .int .i64 xD, .int .u8 xE, .int .i64 xF] 32)) := ⟨_, rfl⟩
  have hbY : Below w3.heap.size w3 Y4 := by rw [hY]; exact below_new (Below.refl _ _) _
  have hle : w.heap.size ≤ w3.heap.size := hB.size
  obtain ⟨gx, hgx⟩ : ∃ g, g = w3.heap.size := ⟨_, rfl⟩
  have rx : RowAt Y4 gx [.bool xA, .int .u64 xB, .int .u64 xC, .int .i64 xD, .int .u8 xE, .int .i64 xF] 32 := by
    have h := RowAt.new w3 [.bool xA, .int .u64 xB, .int .u64 xC, .int .i64 xD, .int .u8 xE, .int .i64 xF] 32
    rw [hgx, hY]; exact h
  have lex : w.heap.size ≤ gx := by omega
  have neax : ga ≠ gx := by have := RowAt.lt ra; omega
  replace ra := RowAt.below ra hbY
  replace h0 := h0.keep hbY
  replace hB := below2 hB hbY
  go_upto_region 4 with fail
  rw [← hY, ← hgx]
  clear hY hbY hle hgx
  have Hch : Hid (∀ r ∈ l, ∀ W, Calls Try.prog 25 #[.agg #[.bool r.pf.six, .int .u64 (hiN r.pf.n : Int), .int .u64 (loN r.pf.n : Int), .int .i64 r.pf.len], .bool six, .agg #[.int .u64 ah, .int .u64 al]] W fun e w' => e = .returned (.bool (hasB r.pf six aa)) ∧ Below W.heap.size W w') := ch
  clear ch c1
  go_wp2_with fail
  go_loopw [37] (fun i wr => ∃ k : Nat, k ≤ n ∧ i = .int .i64 k ∧ Hid (Below Y4.heap.size Y4 wr)) (fun i _ => n - (Go.RowKit.intOf i).toNat)
  case atStart => exact ⟨0, by omega, rfl, Below.refl _ _⟩
  case round =>
    obtain ⟨k, hk, rfl, HI⟩ := hrel
    by_cases hlt : k < n
    · have hkz : k < l.length := by rw [← HN.out]; exact hlt
      have hbl := HI.out
      obtain ⟨g1, i1, rfl, hgl, ax⟩ := Tr.HasRts.cell (h0.keep hbl) k hkz
      obtain ⟨b0, b1, b2, b3, b4, b5⟩ := six_at ax
      have c2 := Hch.out l[k] (List.getElem_mem hkz)
      have hx := HX.out l[k] (List.getElem_mem hkz)
      clear ax
      generalize hasB l[k].pf six aa = q at c2 hx
      generalize l[k].pf.six = p0 at b0 c2
      generalize ((hiN l[k].pf.n : Nat) : Int) = p1 at b1 c2
      generalize ((loN l[k].pf.n : Nat) : Int) = p2 at b2 c2
      generalize l[k].pf.len = p3 at b3 c2 hx
      generalize ((l[k].act.k : Nat) : Int) = p4 at b4
      generalize l[k].act.i = p5 at b5
      have hki : (k : Int) < (n : Int) := by omega
      obtain ⟨Y, hY⟩ : ∃ Y, Y = wr.alloc (.cells #[.bool p0, .int .u64 p1, .int .u64 p2, .int .i64 p3, .int .u8 p4, .int .i64 p5] 32) := ⟨_, rfl⟩
      have hbY : Below wr.heap.size wr Y := by rw [hY]; exact below_new (Below.refl _ _) _
      have rY : RowAt Y wr.heap.size [.bool p0, .int .u64 p1, .int .u64 p2, .int .i64 p3, .int .u8 p4, .int .i64 p5] 32 := by rw [hY]; exact RowAt.new _ _ _
      go_upto_region 9 with fail
      rw [← hY]
      clear hY b0 b1 b2 b3 b4 b5
      generalize wr.heap.size = gY at rY ⊢
      have hbn : Below Y4.heap.size Y4 Y := below2 hbl hbY
      obtain ⟨y0, y1, y2, y3, y4, y5, yf⟩ := six_of rY
      obtain ⟨a0, a1, af⟩ := cells2 (RowAt.below ra hbn)
      go_wp2_with fail
      go_at_call 25; refine (c2 _).mono ?_; rintro e w9 ⟨rfl, hb9⟩
      have hbm : Below Y4.heap.size Y4 w9 := below2 hbn hb9
      clear y0 y1 y2 y3 y4 y5 yf a0 a1 af c2
      obtain ⟨y0, y1, y2, y3, y4, y5, yf⟩ := six_of (RowAt.below rY hb9)
      obtain ⟨x0, x1, x2, x3, x4, x5, xf⟩ := six_of (RowAt.below rx hbm)
      cases q
      · go_wp2_with fail
        go_roundw
        case rel => exact ⟨k + 1, by omega, by go_num, hbm⟩
        case measure => simp [Go.RowKit.intOf]; omega
      · have hx := hx rfl
        go_wp2_with fail
        go_roundw
        case rel => exact ⟨k + 1, by omega, by go_num, hbm⟩
        case measure => simp [Go.RowKit.intOf]; omega
    · have hkn2 : k = n := by omega
      subst hkn2
      have hkd : decide ((k : Int) < (k : Int)) = false := decide_eq_false (by omega)
      have hbl := HI.out
      replace ra := RowAt.below ra hbl
      replace rx := RowAt.below rx hbl
      replace h0 := h0.keep hbl
      replace hB := below2 hB hbl
      clear HI hbl Hch HX
      have x0 := RowAt.cell rx 0
      have x1 := RowAt.cell rx 1
      have x2 := RowAt.cell rx 2
      have x3 := RowAt.cell rx 3
      have x4 := RowAt.cell rx 4
      have x5 := RowAt.cell rx 5
      have xf := RowAt.frozen rx
      simp only [List.getElem?_cons_succ, List.getElem?_cons_zero] at x0 x1 x2 x3 x4 x5
      go_wp2_with fail
      clear x0 x1 x2 x3 x4 x5 xf
      go_at_call 11; refine (c4 _ _ h0).mono ?_; rintro e w31 ⟨u7, rfl, h7, hb⟩
      replace ra := RowAt.below ra hb
      replace rx := RowAt.below rx hb
      replace h0 := h0.keep hb
      replace hB := below2 hB hb
      clear hb
      obtain ⟨a0, a1, af⟩ := cells2 ra
      go_wp2_with fail
      clear a0 a1 af
      go_at_call 19; refine (c5 _ _ h7).mono ?_; rintro e w32 ⟨rfl, hb⟩
      replace ra := RowAt.below ra hb
      replace rx := RowAt.below rx hb
      replace h0 := h0.keep hb
      replace h7 := h7.keep hb
      replace hB := below2 hB hb
      clear hb
      obtain ⟨Y33, hY⟩ : ∃ Y, Y = (w32.alloc (.cells #[.bool yA, .int .u64 yB, .int .u64 yC, .int .i64 yD, .int .u8 yE, .int .i64 yF] 32)) := ⟨_, rfl⟩
      have hbY : Below w32.heap.size w32 Y33 := by rw [hY]; exact below_new (Below.refl _ _) _
      have hle : w.heap.size ≤ w32.heap.size := hB.size
      obtain ⟨gy, hgy⟩ : ∃ g, g = w32.heap.size := ⟨_, rfl⟩
      have ry : RowAt Y33 gy [.bool yA, .int .u64 yB, .int .u64 yC, .int .i64 yD, .int .u8 yE, .int .i64 yF] 32 := by
        have h := RowAt.new w32 [.bool yA, .int .u64 yB, .int .u64 yC, .int .i64 yD, .int .u8 yE, .int .i64 yF] 32
        rw [hgy, hY]; exact h
      have ley : w.heap.size ≤ gy := by omega
      have neay : ga ≠ gy := by have := RowAt.lt ra; omega
      have nexy : gx ≠ gy := by have := RowAt.lt rx; omega
      replace ra := RowAt.below ra hbY
      replace rx := RowAt.below rx hbY
      replace h0 := h0.keep hbY
      replace h7 := h7.keep hbY
      replace hB := below2 hB hbY
      go_upto_region 16 with fail
      rw [← hY, ← hgy]
      clear hY hbY hle hgy
      obtain ⟨a0, a1, af⟩ := cells2 ra
      have x0 := RowAt.cell rx 0
      have x1 := RowAt.cell rx 1
      have x2 := RowAt.cell rx 2
      have x3 := RowAt.cell rx 3
      have x4 := RowAt.cell rx 4
      have x5 := RowAt.cell rx 5
      have xf := RowAt.frozen rx
      simp only [List.getElem?_cons_succ, List.getElem?_cons_zero] at x0 x1 x2 x3 x4 x5
      go_wp2_with fail
      clear a0 a1 af x0 x1 x2 x3 x4 x5 xf
      go_at_call 25; refine (c6 _).mono ?_; rintro e w34 ⟨rfl, hb⟩
      replace ra := RowAt.below ra hb
      replace rx := RowAt.below rx hb
      replace ry := RowAt.below ry hb
      replace h0 := h0.keep hb
      replace h7 := h7.keep hb
      replace hB := below2 hB hb
      clear hb
      have x0 := RowAt.cell rx 0
      have x1 := RowAt.cell rx 1
      have x2 := RowAt.cell rx 2
      have x3 := RowAt.cell rx 3
      have x4 := RowAt.cell rx 4
      have x5 := RowAt.cell rx 5
      have xf := RowAt.frozen rx
      simp only [List.getElem?_cons_succ, List.getElem?_cons_zero] at x0 x1 x2 x3 x4 x5
      have y0 := RowAt.cell ry 0
      have y1 := RowAt.cell ry 1
      have y2 := RowAt.cell ry 2
      have y3 := RowAt.cell ry 3
      have y4 := RowAt.cell ry 4
      have y5 := RowAt.cell ry 5
      have yf := RowAt.frozen ry
      simp only [List.getElem?_cons_succ, List.getElem?_cons_zero] at y0 y1 y2 y3 y4 y5
      rcases HZ.out with hz | ⟨hz, hy, c7⟩
      · subst hz
        go_wp2_with fail
        go_ret
        exact ⟨rfl, hB⟩
      · subst hz
        go_wp2_with fail
        go_at_call 26; refine (c7 _).mono ?_; rintro e we ⟨rfl, hb⟩
        replace hB := below2 hB hb
        go_wp2_with fail
        go_ret
        exact ⟨rfl, hB⟩
theorem walk (v : Value) (l : List Rt) (six : Bool) (a : Nat) (w : World) (h0 : HasRts w v l) (hf : ∀ x ∈ l, FitR x) (ha : a < 2 ^ 128) :
    Calls Try.prog 6 #[v, .bool six, adV a] w fun e w' => e = .returned (.bool true) ∧ Below w.heap.size w w' := by
  obtain ⟨o, t, rfl, hq1, hq2⟩ := Lk.HasRow.slice h0
  have c1 := fun W v h => longest_any l v six a W h hf ha
  by_cases h2 : (longT l six a).2 = 2
  · rw [h2] at c1
    have c2 := fun W v h => check_any l v W h hf
    have c3 := fun W => Go.Proofs.Ytjgieaijdkmadaa.Addr.right_any six a W ha
    rcases long_two h2 with g | g
    · have : checkT l = 2 := by unfold checkT; rw [g]; rfl
      rw [this] at c2
      by_cases g2 : rightB six a = false
      · rw [g2] at c3
        exact walk_bad six (hiN a : Int) (loN a : Int) (longT l six a).1.pf.six (hiN (longT l six a).1.pf.n : Int) (loN (longT l six a).1.pf.n : Int) (longT l six a).1.pf.len ((longT l six a).1.act.k : Int) (longT l six a).1.act.i l o _ t w h0 c1 c2 c3
      · exact walk_bad2 six (hiN a : Int) (loN a : Int) (longT l six a).1.pf.six (hiN (longT l six a).1.pf.n : Int) (loN (longT l six a).1.pf.n : Int) (longT l six a).1.pf.len ((longT l six a).1.act.k : Int) (longT l six a).1.act.i l o _ t w h0 c1 c2
    · rw [g] at c3
      cases g1 : okT l with
      | false =>
        have : checkT l = 2 := by unfold checkT; rw [g1]; rfl
        rw [this] at c2
        exact walk_bad six (hiN a : Int) (loN a : Int) (longT l six a).1.pf.six (hiN (longT l six a).1.pf.n : Int) (loN (longT l six a).1.pf.n : Int) (longT l six a).1.pf.len ((longT l six a).1.act.k : Int) (longT l six a).1.act.i l o _ t w h0 c1 c2 c3
      | true =>
        have : checkT l = 0 := by unfold checkT; rw [g1]; rfl
        rw [this] at c2
        exact walk_off six (hiN a : Int) (loN a : Int) (longT l six a).1.pf.six (hiN (longT l six a).1.pf.n : Int) (loN (longT l six a).1.pf.n : Int) (longT l six a).1.pf.len ((longT l six a).1.act.k : Int) (longT l six a).1.act.i l o _ t w h0 c1 c2 c3
  · have ch : ∀ r ∈ l, ∀ W, Calls Try.prog 25 #[.agg #[.bool r.pf.six, .int .u64 (hiN r.pf.n : Int), .int .u64 (loN r.pf.n : Int), .int .i64 r.pf.len], .bool six, .agg #[.int .u64 (hiN a : Int), .int .u64 (loN a : Int)]] W fun e w' => e = .returned (.bool (hasB r.pf six a)) ∧ Below W.heap.size W w' := fun r hr W => Go.Proofs.Ytjgieaijdkmadaa.Addr.has_any r.pf six a W (hf r hr).1.1 (hf r hr).1.2 ha
    by_cases h3 : (longT l six a).2 = 0
    · rw [h3] at c1
      obtain ⟨o1, o2, o3, o4, o5⟩ := long_some h3
      have fx := hf _ o3
      have c4 := fun W v h => del_any l v (longT l six a).1.pf W h hf fx.1
      rw [del_long h3] at c4
      have fo : ∀ x ∈ othersT l (longT l six a).1.pf, FitR x := fun x hx => hf x (mem_others.1 hx).1
      have c6 := fun W => Go.Proofs.Ytjgieaijdkmadaa.Addr.has_any (longT l six a).1.pf six a W fx.1.1 fx.1.2 ha
      rw [o4] at c6
      refine walk_some six (hiN a : Int) (loN a : Int) (longT l six a).1.pf.six (hiN (longT l six a).1.pf.n : Int) (loN (longT l six a).1.pf.n : Int) (longT l six a).1.pf.len ((longT l six a).1.act.k : Int) (longT l six a).1.act.i a (longT (othersT l (longT l six a).1.pf) six a).1.pf.six (hiN (longT (othersT l (longT l six a).1.pf) six a).1.pf.n : Int) (loN (longT (othersT l (longT l six a).1.pf) six a).1.pf.n : Int) (longT (othersT l (longT l six a).1.pf) six a).1.pf.len ((longT (othersT l (longT l six a).1.pf) six a).1.act.k : Int) (longT (othersT l (longT l six a).1.pf) six a).1.act.i (longT (othersT l (longT l six a).1.pf) six a).2 (othersT l (longT l six a).1.pf) l o _ t w h0 c1 (by omega) rfl (fun r hr hq => ?_) ch c4 (fun W v h => longest_any _ v six a W h fo ha) c6 ?_
      · rcases o5 r hr hq with e | e
        · rw [e]; omega
        · omega
      · rcases next_long h3 with e | ⟨e1, e2, e3⟩
        · exact .inl e
        · refine .inr ⟨e1, e2, fun W => ?_⟩
          have fy := fo _ (long_some e1).2.2.1
          have := Go.Proofs.Ytjgieaijdkmadaa.Addr.covers_any (longT (othersT l (longT l six a).1.pf) six a).1.pf (longT l six a).1.pf W fy.1.1 fy.1.2 fx.1.1 fx.1.2
          rw [e3] at this
          exact this
    · obtain ⟨g1, g2⟩ := long_none h2 h3
      rw [g1] at c1
      exact walk_none six (hiN a : Int) (loN a : Int) (longT l six a).1.pf.six (hiN (longT l six a).1.pf.n : Int) (loN (longT l six a).1.pf.n : Int) (longT l six a).1.pf.len ((longT l six a).1.act.k : Int) (longT l six a).1.act.i a l o _ t w h0 c1 (by omega) rfl g2 ch

set_option maxRecDepth 100000 in
theorem lifted (os : Os) (started : os.Started) (H : Type) (enc : TypeId × Value → H) :
    ReturnsInHanded {} Try.checked os 6 .any (Rows.trieLongestSpec.pre6 enc Try.prog Try.f6 Rows.trieLongestRow.domain false) (Rows.trieLongestSpec.post enc Try.prog Try.f6 false true false false) := by
  refine returnsInHanded_of_change_sized (C := Try.checked) own started (by kernel_rfl) Try.func6
    (ChangeSpec.witness6 (enc := enc) (C := Try.checked) false ⟨#[], #[.slice none 0 0, .bool false, .agg #[.int .u64 0, .int .u64 0]], []⟩ 8 (by kernel_rfl) (by kernel_rfl) (by kernel_rfl) (by kernel_rfl)) ?_
  intro W base args ds gs before hval0 hW _ hsz0 _
  have hsz : (DataW.weightsEach Try.prog (Try.f6.params.toList ++ Rows.trieLongestSpec.plain.varTypes Try.prog) (ds ++ gs)).all (· ≤ reachBytes) = true := hsz0
  clear hsz0
  have hval : ∀ (j : Nat) t v, Try.f6.params[j]? = some t → args[j]? = some v → Value.okWide Try.prog W .any base t v := hval0
  have hW' := hW
  obtain ⟨p, q, hA0, hV, rfl, hfz, hnd⟩ := hW
  have hA : DataW.TrodAll enc Try.prog W 0 (fun _ => true) true Try.f6.params.toList args.toList ds p := hA0
  rw [Try.params6] at hA hval hsz
  obtain ⟨v0, vs0, d0, ds0, p0, q0, hargs, rfl, rfl, h0, r0⟩ := trodAll_cons hA
  obtain ⟨v1, vs1, d1, ds1, p1, q1, rfl, rfl, rfl, h1, r1⟩ := trodAll_cons r0
  obtain ⟨v2, vs2, d2, ds2, p2, q2, rfl, rfl, rfl, h2, r2⟩ := trodAll_cons r1
  obtain ⟨rfl, rfl, rfl⟩ := trodAll_nil r2
  obtain rfl : args = #[v0, v1, v2] := by cases args; simp_all
  obtain ⟨rfl, rfl⟩ := trodVars_none hV
  obtain ⟨a0, len0, cap0, rfl⟩ := okWide_slice Try.underlying22 (hval 0 22 v0 rfl rfl)
  have k0 := h0
  have lt0 : ∀ x ∈ p0, x.block < W.heap.size := by obtain ⟨m, hm⟩ := k0; exact DataW.trod_lt m _ _ _ hm
  obtain ⟨fuel0, hf0⟩ := h0
  obtain ⟨z0, b0, f0⟩ := Tr.open_routes hf0
  obtain ⟨a1, rfl, rfl, rfl⟩ := open_bool Try.underlying4 (hval 1 4 v1 rfl rfl) h1
  have k2 := h2
  have lt2 : ∀ x ∈ p2, x.block < W.heap.size := by obtain ⟨m, hm⟩ := k2; exact DataW.trod_lt m _ _ _ hm
  obtain ⟨n2, rfl, b2⟩ := Addr.open_addr (hval 2 25 v2 rfl rfl) h2
  clear hA0 hval0
  refine (walk (.slice a0 len0 cap0) z0 a1 n2 W b0 f0 b2).mono fun e W' ⟨he, bel⟩ => ?_
  subst he
  exact ⟨_, rfl, _, _, _, [], _, [], hW', trodAll_mk1 (shut_bool Try.underlying4 _), (trodAll_cons_mk (Below.trod laidOut (by kernel_rfl) (of_decide_eq_true (by kernel_rfl)) k0 bel lt0) (trodAll_cons_mk (shut_bool Try.underlying4 a1) (trodAll_cons_mk (Below.trod laidOut (by kernel_rfl) (of_decide_eq_true (by kernel_rfl)) k2 bel lt2) trodAll_mk0))), rfl, bel.frame _, fun h => by cases h⟩

theorem over : Rows.trieLongestRow.holds Try.pinned (OpenSpec.ofChange Rows.trieLongestSpec) :=
  OpenClaim.holds_of_wide 6 Try.f6 rfl rfl rfl rfl rfl rfl rfl ⟨rfl, rfl, rfl, rfl, rfl⟩ rfl rfl rfl rfl rfl (by kernel_rfl) Try.func6 (by kernel_rfl)
    (of_decide_eq_true (by kernel_rfl)) (by unfold Func.isWrapper; first | (rw [if_pos (by decide +kernel)]; kernel_rfl) | (rw [if_neg (by decide +kernel)]; exact ⟨rfl, rfl⟩))
    (fun os started H enc _ => lifted os started H enc)
end trieLongest
theorem tlongest_holds : Rows.TrieLongestSaid := trieLongest.over
#print axioms tlongest_holds
end Go.Proofs.Ytjgieaijdkmadaa
