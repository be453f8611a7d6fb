/- fresh.Router, once more: its rows are new. -/
import Derived.Test.YtkjhnefbcnnjlaaGreatNv09
import Derived.Test.YtkjhnefbcnnjlaaGreatNv13
import Derived.Deep.RegionHeld3
import Derived.Test.YtkjhnefbcnnjlaaGreatNv08
set_option linter.unusedVariables false
namespace Go.Proofs.YtkjhnefbcnnjlaaGreat.Nt
open Go.RowKit
open Go.Proofs.YtkjhnefbcnnjlaaGreat.Lk (HasRow HasLks.keep)
open Go.Proofs.YtkjhnefbcnnjlaaGreat.Tr (HasRts.keep)
open Go.Proofs.YtkjhnefbcnnjlaaGreat.Fib
open Go.Proofs.YtkjhnefbcnnjlaaGreat.Addr (RowAt below2 below_drew below_new bset RowAt.lt RowAt.cell RowAt.below RowAt.drew RowAt.new RowAt.alloc RowAt.gkeep gset grefl cells2 cells4)
theorem results_tct {fn : Func} {p u x : Tmp} {ty : TypeId} (h : fn.results = #[.tmp u, .cell p ty, .tmp x]) (tmps : Array Value) (P : Program) (w : World) :
    (results fn tmps).run P w = ((asAddr (tmps.getD p undef)).run P w).andThen fun a w₁ => ((loadVar ty a).run P w₁).andThen fun v w₂ => .ok (.tuple #[tmps.getD u undef, v, tmps.getD x undef]) w₂ := by
  simp only [results, h]
  simp [Sem.run_bind, Result.andThen]
theorem row_zero {W W' : World} {v : Value} {sz : Nat} (h : HasRow W v sz 0 []) : HasRow W' v sz 0 [] := by
  refine ⟨h.1, ?_⟩
  rcases h.2 with h0 | ⟨a, cap, e, h1, h2, h3, h4⟩
  · exact .inl h0
  · exact .inr ⟨a, cap, e, h1, h2, fun hp => absurd hp (by decide), fun j hj => by omega⟩
def PartIs (M : List RoM) (k dr : Nat) (R : Ro) (w : World) (e : Ending) (w' : World) : Prop :=
  ∃ oa na ca o1 n1 c1 o2 n2 c2 ob nb cb, e = .returned (.tuple #[.slice oa na ca, .agg #[.int .i64 R.id, .bool R.up, .slice o1 n1 c1, .slice o2 n2 c2], .slice ob nb cb]) ∧ HasRoM w' (.slice oa na ca) (M.take k) ∧ HasRoM w' (.slice ob nb cb) (M.drop dr) ∧ RowsOf w' ⟨R, .slice o1 n1 c1, .slice o2 n2 c2⟩ ∧ Below w.heap.size w w'
theorem grown_drewP {W W' : World} {r : Option Nat} (h : W.grownBy W' r) : W.grownBy W'.drew r := ⟨h.os, h.tape, h.output, h.size, h.block⟩
theorem set4_bl' {w0 W : World} {B b : Nat} (h : Below B w0 W) (hb : B ≤ b) (x y z u : Value) : Below B w0 ((((W.setCell ⟨b, 0, none⟩ x).setCell ⟨b, 1, none⟩ y).setCell ⟨b, 2, none⟩ z).setCell ⟨b, 3, none⟩ u) := bset (bset (bset (bset h hb) hb) hb) hb
set_option maxHeartbeats 8000000 in
set_option maxRecDepth 20000 in
theorem part_is (gf b i : Nat) (so : Option Addr) (sn sc ln lc p : Nat) (id idr : Int) (up : Bool) (o1 o2 : Option Addr) (n1 n2 c1 c2 : Nat) (w : World) (hf : RowAt w gf [.slice so sn sc, .slice (some ⟨b, i, none⟩) ln lc] 54) (hbl : b < w.heap.size)
    (a0 : w.cell? ⟨b, i + p * 4, none⟩ = some (.int .i64 idr)) (a1 : w.cell? ⟨b, i + p * 4 + 1, none⟩ = some (.bool up)) (a2 : w.cell? ⟨b, i + p * 4 + 2, none⟩ = some (.slice o1 n1 c1)) (a3 : w.cell? ⟨b, i + p * 4 + 3, none⟩ = some (.slice o2 n2 c2)) (hp : p < ln) (hlc : ln ≤ lc) (hmx : lc ≤ 9223372036854775807)
    (cf : ∀ W, Below w.heap.size w W → Calls Tryz.prog 43 #[.pointer (some ⟨gf, 0, none⟩), .int .i64 id] W fun e w' => e = .returned (.tuple #[.int .i64 (p : Int), .bool true]) ∧ Below W.heap.size W w') :
    Calls Tryz.prog 32 #[.pointer (some ⟨gf, 0, none⟩), .int .i64 id] w fun e w' => ∃ ob nb cb, e = .returned (.tuple #[.slice (some ⟨b, i, none⟩) p lc, .agg #[.int .i64 idr, .bool up, .slice o1 n1 c1, .slice o2 n2 c2], .slice ob nb cb]) ∧ ((lc = p + 1 ∧ nb = 0 ∧ cb = 0 ∧ ∃ a, ob = some a) ∨ (ob = some ⟨b, i + (p + 1) * 4, none⟩ ∧ nb = ln - (p + 1) ∧ cb = lc - (p + 1))) ∧ Below w.heap.size w w' := by
  obtain ⟨X, hX⟩ : ∃ X, X = w.alloc (.cells #[.int .i64 0, .bool false, .slice none 0 0, .slice none 0 0] 51) := ⟨_, rfl⟩
  have hB : Below w.heap.size w X := by rw [hX]; exact below_new (Below.refl _ _) _
  have rz : RowAt X w.heap.size [.int .i64 0, .bool false, .slice none 0 0, .slice none 0 0] 51 := by rw [hX]; exact RowAt.new _ _ _
  obtain ⟨gz, hgz⟩ : ∃ gz, gz = w.heap.size := ⟨_, rfl⟩
  have HGZ : Hid (w.heap.size ≤ gz) := by rw [hgz]; exact Nat.le_refl _
  have hli : (ln : Int) ≤ (lc : Int) := by omega
  have hmi : (lc : Int) ≤ 9223372036854775807 := by omega
  go_enter Tryz.func32, Tryz.ntmps32
  go_upto_region 1 with fail
  rw [← hX, ← hgz]
  rw [← hgz] at rz
  clear hX hgz
  go_wp2_with fail
  go_at_call 43; refine (cf _ hB).mono ?_; rintro e w1 ⟨rfl, hb1⟩
  replace hB := below2 hB hb1
  replace rz := RowAt.below rz hb1
  clear hb1
  have rf := RowAt.below hf hB
  have hlt1 : gf < w1.heap.size := RowAt.lt rf
  obtain ⟨x0, x1, xf⟩ := cells2 rf
  obtain ⟨z0, z1, z2, z3, zf⟩ := cells4 rz
  replace a0 := (hB.cell (p := ⟨b, i + p * 4, none⟩) hbl).trans a0
  replace a1 := (hB.cell (p := ⟨b, i + p * 4 + 1, none⟩) hbl).trans a1
  replace a2 := (hB.cell (p := ⟨b, i + p * 4 + 2, none⟩) hbl).trans a2
  replace a3 := (hB.cell (p := ⟨b, i + p * 4 + 3, none⟩) hbl).trans a3
  have hpi : (p : Int) < (ln : Int) := by omega
  have hw1 : IntKind.i64.wrap ((p : Int) + 1) = (p : Int) + 1 := by rw [IntKind.wrap_i64]; omega
  have hb1 : (0 : Int) ≤ (p : Int) + 1 := by omega
  have hle1 : (p : Int) + 1 ≤ (ln : Int) := by omega
  have hle2 : (p : Int) ≤ (ln : Int) := by omega
  have hle3 : (p : Int) ≤ (lc : Int) := by omega
  have hle4 : (p : Int) + 1 ≤ (lc : Int) := by omega
  have htn : ((p : Int) + 1).toNat = p + 1 := by omega
  have HKEEP : Hid (∀ w' : World, w1.grownBy w' (some gz) → w'.cell? ⟨gf, 1, none⟩ = some (.slice (some ⟨b, i, none⟩) ln lc) ∧ w'.cell? ⟨b, i + p * 4, none⟩ = some (.int .i64 idr) ∧ w'.cell? ⟨b, i + p * 4 + 1, none⟩ = some (.bool up) ∧ w'.cell? ⟨b, i + p * 4 + 2, none⟩ = some (.slice o1 n1 c1) ∧ w'.cell? ⟨b, i + p * 4 + 3, none⟩ = some (.slice o2 n2 c2)) := fun w' hg => by
    have kk : ∀ (x y : Nat), x < w1.heap.size → x ≠ gz → w'.cell? ⟨x, y, none⟩ = w1.cell? ⟨x, y, none⟩ := fun x y h1 h2 => by
      unfold World.cell?
      simp only
      rw [hg.block x h1 (fun e => by injection e with e; exact h2 e)]
    have hb2 : b < w1.heap.size := Nat.lt_of_lt_of_le hbl hB.size
    have h1 := HGZ.out
    have h2 := RowAt.lt hf
    exact ⟨(kk gf 1 hlt1 (by omega)).trans x1, (kk b _ hb2 (by omega)).trans a0, (kk b _ hb2 (by omega)).trans a1, (kk b _ hb2 (by omega)).trans a2, (kk b _ hb2 (by omega)).trans a3⟩
  clear cf hf rf
  go_wp2_with fail
  by_cases hcap : lc = p + 1
  · have hcap0 : lc - (p + 1) = 0 := by omega
    have hln0 : ln - (p + 1) = 0 := by omega
    have HC : Hid (lc = p + 1) := hcap
    clear hcap
    go_region_held3 (fun w' => w'.cell? ⟨gf, 1, none⟩ = some (.slice (some ⟨b, i, none⟩) ln lc) ∧ w'.cell? ⟨b, i + p * 4, none⟩ = some (.int .i64 idr) ∧ w'.cell? ⟨b, i + p * 4 + 1, none⟩ = some (.bool up) ∧ w'.cell? ⟨b, i + p * 4 + 2, none⟩ = some (.slice o1 n1 c1) ∧ w'.cell? ⟨b, i + p * 4 + 3, none⟩ = some (.slice o2 n2 c2)) ((refine HKEEP.out _ ?_; repeat' (first | with_reducible exact grefl _ _ | with_reducible apply gset | with_reducible apply grown_drewP))) (fail)
    all_goals
      go_wp2_with fail
      (try simp only [Exit.inBlock, Exit.then])
      refine bodyPost_ret (v := .tuple #[.slice (some ⟨b, i, none⟩) p lc, .agg #[.int .i64 idr, .bool up, .slice o1 n1 c1, .slice o2 n2 c2], .slice (some ⟨b, i, none⟩) 0 0]) ?_ rfl ?_
      · rw [results_tct rfl]
        go_simp
      · have hlc9 := HC.out
        subst hlc9
        refine ⟨_, _, _, rfl, .inl (by first | exact ⟨rfl, rfl, rfl, _, rfl⟩ | exact ⟨rfl, rfl, _, rfl⟩), (by first | exact below_drew (set4_bl' hB HGZ.out _ _ _ _) | exact set4_bl' hB HGZ.out _ _ _ _)⟩
  · have hcap2 : ¬ lc - (p + 1) = 0 := by omega
    go_region_held3 (fun w' => w'.cell? ⟨gf, 1, none⟩ = some (.slice (some ⟨b, i, none⟩) ln lc) ∧ w'.cell? ⟨b, i + p * 4, none⟩ = some (.int .i64 idr) ∧ w'.cell? ⟨b, i + p * 4 + 1, none⟩ = some (.bool up) ∧ w'.cell? ⟨b, i + p * 4 + 2, none⟩ = some (.slice o1 n1 c1) ∧ w'.cell? ⟨b, i + p * 4 + 3, none⟩ = some (.slice o2 n2 c2)) ((refine HKEEP.out _ ?_; repeat' (first | with_reducible exact grefl _ _ | with_reducible apply gset | with_reducible apply grown_drewP))) (fail)
    all_goals
      go_wp2_with fail
      (try simp only [Exit.inBlock, Exit.then])
      refine bodyPost_ret (v := .tuple #[.slice (some ⟨b, i, none⟩) p lc, .agg #[.int .i64 idr, .bool up, .slice o1 n1 c1, .slice o2 n2 c2], .slice (some ⟨b, i + (p + 1) * 4, none⟩) (ln - (p + 1)) (lc - (p + 1))]) ?_ rfl ?_
      · rw [results_tct rfl]
        go_simp
      · refine ⟨_, _, _, rfl, .inr ⟨rfl, rfl, rfl⟩, (by first | exact below_drew (set4_bl' hB HGZ.out _ _ _ _) | exact set4_bl' hB HGZ.out _ _ _ _)⟩
set_option maxHeartbeats 8000000 in
set_option maxRecDepth 20000 in
theorem part_nil (gf : Nat) (so : Option Addr) (sn sc : Nat) (id : Int) (w : World) (hf : RowAt w gf [.slice so sn sc, .slice none 0 0] 54)
    (cf : ∀ W, Below w.heap.size w W → Calls Tryz.prog 43 #[.pointer (some ⟨gf, 0, none⟩), .int .i64 id] W fun e w' => e = .returned (.tuple #[.int .i64 ((0 : Nat) : Int), .bool false]) ∧ Below W.heap.size W w')
    (idm : Int) (upm : Bool) (zm : Int) (cm : ∀ W, Calls Tryz.prog 57 #[.int .i64 id] W fun e w' => ∃ o1 n1 c1 o2 n2 c2, e = .returned (.tuple #[.agg #[.int .i64 idm, .bool upm, .slice o1 n1 c1, .slice o2 n2 c2], .int .i64 zm]) ∧ Hid (HasRow w' (.slice o1 n1 c1) 6 0 [] ∧ HasRow w' (.slice o2 n2 c2) 2 0 []) ∧ Below W.heap.size W w') :
    Calls Tryz.prog 32 #[.pointer (some ⟨gf, 0, none⟩), .int .i64 id] w fun e w' => ∃ o1 n1 c1 o2 n2 c2, e = .returned (.tuple #[.slice none 0 0, .agg #[.int .i64 idm, .bool upm, .slice o1 n1 c1, .slice o2 n2 c2], .slice none 0 0]) ∧ (HasRow w (.slice o1 n1 c1) 6 0 [] ∧ HasRow w (.slice o2 n2 c2) 2 0 []) ∧ Below w.heap.size w w' := by
  obtain ⟨X, hX⟩ : ∃ X, X = w.alloc (.cells #[.int .i64 0, .bool false, .slice none 0 0, .slice none 0 0] 51) := ⟨_, rfl⟩
  have hB : Below w.heap.size w X := by rw [hX]; exact below_new (Below.refl _ _) _
  have rz : RowAt X w.heap.size [.int .i64 0, .bool false, .slice none 0 0, .slice none 0 0] 51 := by rw [hX]; exact RowAt.new _ _ _
  obtain ⟨gz, hgz⟩ : ∃ gz, gz = w.heap.size := ⟨_, rfl⟩
  have HGZ : Hid (w.heap.size ≤ gz) := by rw [hgz]; exact Nat.le_refl _
  go_enter Tryz.func32, Tryz.ntmps32
  go_upto_region 1 with fail
  rw [← hX, ← hgz]
  rw [← hgz] at rz
  clear hX hgz
  go_wp2_with fail
  go_at_call 43; refine (cf _ hB).mono ?_; rintro e w1 ⟨rfl, hb1⟩
  replace hB := below2 hB hb1
  replace rz := RowAt.below rz hb1
  clear hb1
  have hgf := RowAt.lt hf
  clear cf
  go_wp2_with fail
  go_at_call 57; refine (cm _).mono ?_; rintro e w2 ⟨o1, n1, c1, o2, n2, c2, rfl, HM, hb2⟩
  replace hB := below2 hB hb2
  replace rz := RowAt.below rz hb2
  clear hb2 cm
  have HM2 : Hid (HasRow w (.slice o1 n1 c1) 6 0 [] ∧ HasRow w (.slice o2 n2 c2) 2 0 []) := ⟨row_zero HM.out.1, row_zero HM.out.2⟩
  clear HM
  obtain ⟨Y, hY⟩ : ∃ Y, Y = w2.alloc (.cells #[.int .i64 idm, .bool upm, .slice o1 n1 c1, .slice o2 n2 c2] 51) := ⟨_, rfl⟩
  have hbY : Below w2.heap.size w2 Y := by rw [hY]; exact below_new (Below.refl _ _) _
  have rY : RowAt Y w2.heap.size [.int .i64 idm, .bool upm, .slice o1 n1 c1, .slice o2 n2 c2] 51 := by rw [hY]; exact RowAt.new _ _ _
  go_upto_region 5 with fail
  rw [← hY]
  have hne : w2.heap.size ≠ gz := by have := RowAt.lt rz; omega
  replace hB := below2 hB hbY
  replace rz := RowAt.below rz hbY
  clear hY hbY
  generalize w2.heap.size = gy at rY hne ⊢
  have rf := RowAt.below hf hB
  have hlt1 : gf < Y.heap.size := RowAt.lt rf
  obtain ⟨x0, x1, xf⟩ := cells2 rf
  obtain ⟨z0, z1, z2, z3, zf⟩ := cells4 rz
  obtain ⟨y0, y1, y2, y3, yf⟩ := cells4 rY
  have HKEEP : Hid (∀ w' : World, Y.grownBy w' (some gz) → w'.cell? ⟨gf, 1, none⟩ = some (.slice none 0 0) ∧ w'.cell? ⟨gy, 0, none⟩ = some (.int .i64 idm) ∧ w'.cell? ⟨gy, 1, none⟩ = some (.bool upm) ∧ w'.cell? ⟨gy, 2, none⟩ = some (.slice o1 n1 c1) ∧ w'.cell? ⟨gy, 3, none⟩ = some (.slice o2 n2 c2)) := fun w' hg => by
    have h1 := HGZ.out
    obtain ⟨k0, k1, k2, k3, _⟩ := cells4 (rY.gkeep hg (fun e => by injection e with e; exact hne e))
    obtain ⟨_, j1, _⟩ := cells2 (rf.gkeep hg (fun e => by injection e with e; omega))
    exact ⟨j1, k0, k1, k2, k3⟩
  clear hf rf
  go_region_held3 (fun w' => w'.cell? ⟨gf, 1, none⟩ = some (.slice none 0 0) ∧ w'.cell? ⟨gy, 0, none⟩ = some (.int .i64 idm) ∧ w'.cell? ⟨gy, 1, none⟩ = some (.bool upm) ∧ w'.cell? ⟨gy, 2, none⟩ = some (.slice o1 n1 c1) ∧ w'.cell? ⟨gy, 3, none⟩ = some (.slice o2 n2 c2)) ((refine HKEEP.out _ ?_; repeat' (first | with_reducible exact grefl _ _ | with_reducible apply gset | with_reducible apply grown_drewP))) (fail)
  all_goals
    go_wp2_with fail
    (try simp only [Exit.inBlock, Exit.then])
    refine bodyPost_ret (v := .tuple #[.slice none 0 0, .agg #[.int .i64 idm, .bool upm, .slice o1 n1 c1, .slice o2 n2 c2], .slice none 0 0]) ?_ rfl ?_
    · rw [results_tct rfl]
      go_simp
    · refine ⟨_, _, _, _, _, _, rfl, HM2.out, (by first | exact below_drew (set4_bl' hB HGZ.out _ _ _ _) | exact set4_bl' hB HGZ.out _ _ _ _)⟩
set_option maxHeartbeats 8000000 in
set_option maxRecDepth 20000 in
theorem part_no (gf : Nat) (a : Addr) (so : Option Addr) (sn sc ln lc p : Nat) (id : Int) (w : World) (hf : RowAt w gf [.slice so sn sc, .slice (some a) ln lc] 54) (hp : p ≤ ln) (hlc : ln ≤ lc) (hmx : lc ≤ 9223372036854775807)
    (cf : ∀ W, Below w.heap.size w W → Calls Tryz.prog 43 #[.pointer (some ⟨gf, 0, none⟩), .int .i64 id] W fun e w' => e = .returned (.tuple #[.int .i64 (p : Int), .bool false]) ∧ Below W.heap.size W w')
    (idm : Int) (upm : Bool) (zm : Int) (cm : ∀ W, Calls Tryz.prog 57 #[.int .i64 id] W fun e w' => ∃ o1 n1 c1 o2 n2 c2, e = .returned (.tuple #[.agg #[.int .i64 idm, .bool upm, .slice o1 n1 c1, .slice o2 n2 c2], .int .i64 zm]) ∧ Hid (HasRow w' (.slice o1 n1 c1) 6 0 [] ∧ HasRow w' (.slice o2 n2 c2) 2 0 []) ∧ Below W.heap.size W w') :
    Calls Tryz.prog 32 #[.pointer (some ⟨gf, 0, none⟩), .int .i64 id] w fun e w' => ∃ ob nb cb o1 n1 c1 o2 n2 c2, e = .returned (.tuple #[.slice (some a) p lc, .agg #[.int .i64 idm, .bool upm, .slice o1 n1 c1, .slice o2 n2 c2], .slice ob nb cb]) ∧ ((lc = p ∧ nb = 0 ∧ cb = 0 ∧ ∃ a, ob = some a) ∨ (ob = some (a.add (p * 4)) ∧ nb = ln - p ∧ cb = lc - p)) ∧ (HasRow w (.slice o1 n1 c1) 6 0 [] ∧ HasRow w (.slice o2 n2 c2) 2 0 []) ∧ Below w.heap.size w w' := by
  obtain ⟨X, hX⟩ : ∃ X, X = w.alloc (.cells #[.int .i64 0, .bool false, .slice none 0 0, .slice none 0 0] 51) := ⟨_, rfl⟩
  have hB : Below w.heap.size w X := by rw [hX]; exact below_new (Below.refl _ _) _
  have rz : RowAt X w.heap.size [.int .i64 0, .bool false, .slice none 0 0, .slice none 0 0] 51 := by rw [hX]; exact RowAt.new _ _ _
  obtain ⟨gz, hgz⟩ : ∃ gz, gz = w.heap.size := ⟨_, rfl⟩
  have HGZ : Hid (w.heap.size ≤ gz) := by rw [hgz]; exact Nat.le_refl _
  have hli : (ln : Int) ≤ (lc : Int) := by omega
  have hmi : (lc : Int) ≤ 9223372036854775807 := by omega
  go_enter Tryz.func32, Tryz.ntmps32
  go_upto_region 1 with fail
  rw [← hX, ← hgz]
  rw [← hgz] at rz
  clear hX hgz
  go_wp2_with fail
  go_at_call 43; refine (cf _ hB).mono ?_; rintro e w1 ⟨rfl, hb1⟩
  replace hB := below2 hB hb1
  replace rz := RowAt.below rz hb1
  clear hb1
  have hgf := RowAt.lt hf
  clear cf
  go_wp2_with fail
  go_at_call 57; refine (cm _).mono ?_; rintro e w2 ⟨o1, n1, c1, o2, n2, c2, rfl, HM, hb2⟩
  replace hB := below2 hB hb2
  replace rz := RowAt.below rz hb2
  clear hb2 cm
  have HM2 : Hid (HasRow w (.slice o1 n1 c1) 6 0 [] ∧ HasRow w (.slice o2 n2 c2) 2 0 []) := ⟨row_zero HM.out.1, row_zero HM.out.2⟩
  clear HM
  obtain ⟨Y, hY⟩ : ∃ Y, Y = w2.alloc (.cells #[.int .i64 idm, .bool upm, .slice o1 n1 c1, .slice o2 n2 c2] 51) := ⟨_, rfl⟩
  have hbY : Below w2.heap.size w2 Y := by rw [hY]; exact below_new (Below.refl _ _) _
  have rY : RowAt Y w2.heap.size [.int .i64 idm, .bool upm, .slice o1 n1 c1, .slice o2 n2 c2] 51 := by rw [hY]; exact RowAt.new _ _ _
  go_upto_region 5 with fail
  rw [← hY]
  have hne : w2.heap.size ≠ gz := by have := RowAt.lt rz; omega
  replace hB := below2 hB hbY
  replace rz := RowAt.below rz hbY
  clear hY hbY
  generalize w2.heap.size = gy at rY hne ⊢
  have rf := RowAt.below hf hB
  have hlt1 : gf < Y.heap.size := RowAt.lt rf
  obtain ⟨x0, x1, xf⟩ := cells2 rf
  obtain ⟨z0, z1, z2, z3, zf⟩ := cells4 rz
  obtain ⟨y0, y1, y2, y3, yf⟩ := cells4 rY
  have hle2 : (p : Int) ≤ (ln : Int) := by omega
  have hle3 : (p : Int) ≤ (lc : Int) := by omega
  have HKEEP : Hid (∀ w' : World, Y.grownBy w' (some gz) → w'.cell? ⟨gf, 1, none⟩ = some (.slice (some a) ln lc) ∧ w'.cell? ⟨gy, 0, none⟩ = some (.int .i64 idm) ∧ w'.cell? ⟨gy, 1, none⟩ = some (.bool upm) ∧ w'.cell? ⟨gy, 2, none⟩ = some (.slice o1 n1 c1) ∧ w'.cell? ⟨gy, 3, none⟩ = some (.slice o2 n2 c2)) := fun w' hg => by
    have h1 := HGZ.out
    obtain ⟨k0, k1, k2, k3, _⟩ := cells4 (rY.gkeep hg (fun e => by injection e with e; exact hne e))
    obtain ⟨_, j1, _⟩ := cells2 (rf.gkeep hg (fun e => by injection e with e; omega))
    exact ⟨j1, k0, k1, k2, k3⟩
  clear hf rf
  by_cases hcap : lc = p
  · have hcap0 : lc - p = 0 := by omega
    have hln0 : ln - p = 0 := by omega
    have HC : Hid (lc = p) := hcap
    clear hcap
    go_region_held3 (fun w' => w'.cell? ⟨gf, 1, none⟩ = some (.slice (some a) ln lc) ∧ w'.cell? ⟨gy, 0, none⟩ = some (.int .i64 idm) ∧ w'.cell? ⟨gy, 1, none⟩ = some (.bool upm) ∧ w'.cell? ⟨gy, 2, none⟩ = some (.slice o1 n1 c1) ∧ w'.cell? ⟨gy, 3, none⟩ = some (.slice o2 n2 c2)) ((refine HKEEP.out _ ?_; repeat' (first | with_reducible exact grefl _ _ | with_reducible apply gset | with_reducible apply grown_drewP))) (fail)
    all_goals
      go_wp2_with fail
      (try simp only [Exit.inBlock, Exit.then])
      refine bodyPost_ret (v := .tuple #[.slice (some a) p lc, .agg #[.int .i64 idm, .bool upm, .slice o1 n1 c1, .slice o2 n2 c2], .slice (some a) 0 0]) ?_ rfl ?_
      · rw [results_tct rfl]
        go_simp
      · have hlc9 := HC.out
        subst hlc9
        refine ⟨_, _, _, _, _, _, _, _, _, rfl, .inl (by first | exact ⟨rfl, rfl, rfl, _, rfl⟩ | exact ⟨rfl, rfl, _, rfl⟩), HM2.out, (by first | exact below_drew (set4_bl' hB HGZ.out _ _ _ _) | exact set4_bl' hB HGZ.out _ _ _ _)⟩
  · have hcap2 : ¬ lc - p = 0 := by omega
    go_region_held3 (fun w' => w'.cell? ⟨gf, 1, none⟩ = some (.slice (some a) ln lc) ∧ w'.cell? ⟨gy, 0, none⟩ = some (.int .i64 idm) ∧ w'.cell? ⟨gy, 1, none⟩ = some (.bool upm) ∧ w'.cell? ⟨gy, 2, none⟩ = some (.slice o1 n1 c1) ∧ w'.cell? ⟨gy, 3, none⟩ = some (.slice o2 n2 c2)) ((refine HKEEP.out _ ?_; repeat' (first | with_reducible exact grefl _ _ | with_reducible apply gset | with_reducible apply grown_drewP))) (fail)
    all_goals
      go_wp2_with fail
      (try simp only [Exit.inBlock, Exit.then])
      refine bodyPost_ret (v := .tuple #[.slice (some a) p lc, .agg #[.int .i64 idm, .bool upm, .slice o1 n1 c1, .slice o2 n2 c2], .slice (some (a.add (p * 4))) (ln - p) (lc - p)]) ?_ rfl ?_
      · rw [results_tct rfl]
        go_simp
      · refine ⟨_, _, _, _, _, _, _, _, _, rfl, .inr ⟨rfl, rfl, rfl⟩, HM2.out, (by first | exact below_drew (set4_bl' hB HGZ.out _ _ _ _) | exact set4_bl' hB HGZ.out _ _ _ _)⟩
theorem parted_any (L : List Ro) (gf : Nat) (so lo : Option Addr) (sn sc ln lc : Nat) (id : Int) (w : World) (hf : RowAt w gf [.slice so sn sc, .slice lo ln lc] 54) (hl : HasRos w (.slice lo ln lc) L) :
    ∃ M, rosOf M = L ∧ (∀ m ∈ M, RowsOf w m) ∧ Calls Tryz.prog 32 #[.pointer (some ⟨gf, 0, none⟩), .int .i64 id] w (PartIs M (posN L id) (if isN L id then posN L id + 1 else posN L id) (wasN L id) w) := by
  obtain ⟨M, eM, hM⟩ := hl
  have hl2 : HasRos w (.slice lo ln lc) L := ⟨M, eM, hM⟩
  have hlM : M.length = L.length := by rw [← eM]; simp [rosOf]
  refine ⟨M, eM, hM.2, ?_⟩
  have cf : ∀ W, Below w.heap.size w W → Calls Tryz.prog 43 #[.pointer (some ⟨gf, 0, none⟩), .int .i64 id] W fun e w' => e = .returned (.tuple #[.int .i64 (posN L id : Int), .bool (isN L id)]) ∧ Below W.heap.size W w' := fun W hb => find_any L gf so lo sn sc ln lc id W (hf.below hb) (hl2.keep hb)
  have hpl := pos_le L id
  obtain ⟨o', c', e', hc1, hc2⟩ := HasRos.slice hl2
  injection e' with e1 e2 e3
  subst e1 e3
  cases hi : isN L id with
  | true =>
    rw [hi] at cf
    simp only [if_true]
    have hp : posN L id < L.length := by
      unfold isN at hi
      rcases Nat.lt_or_ge (posN L id) L.length with h | h
      · exact h
      · rw [List.getElem?_eq_none h] at hi; cases hi
    have hpM : posN L id < M.length := by omega
    obtain ⟨b, i, eb, hbl, a0, a1, a2, a3⟩ := hM.cell (posN L id) hpM
    have hr := hM.2 _ (List.getElem_mem hpM)
    obtain ⟨o1, c1, o2, c2, ex, ey⟩ := hr.slices
    have hro : M[posN L id].ro = wasN L id := by
      unfold wasN
      rw [hi, if_pos rfl, List.getElem?_eq_getElem hp]
      subst eM
      simp [rosOf]
    rw [ex] at a2
    rw [ey] at a3
    subst eb
    refine (part_is gf b i so sn sc ln lc (posN L id) id M[posN L id].ro.id M[posN L id].ro.up o1 o2 _ _ c1 c2 w hf hbl a0 a1 a2 a3 (by omega) (by omega) hc2 cf).mono ?_
    rintro e w' ⟨ob, nb, cb, rfl, hcase, hb⟩
    have hMw := hM.keep hb
    refine ⟨some ⟨b, i, none⟩, posN L id, lc, o1, _, c1, o2, _, c2, ob, nb, cb, by rw [← hro], hMw.take _ (by omega), ?_, ?_, hb⟩
    · rcases hcase with ⟨q1, q2, q3, a, q4⟩ | ⟨q1, q2, q3⟩
      · subst q2 q3 q4
        rw [List.drop_of_length_le (by omega)]
        exact hasRoM_empty _ _ _ (by omega)
      · subst q1 q2 q3
        have := hMw.drop (posN L id + 1) (by omega)
        rw [hlM, ← e2] at this
        exact this
    · have h9 := (hr.keep hb)
      have e9 : (⟨wasN L id, .slice o1 M[posN L id].ro.rts.length c1, .slice o2 M[posN L id].ro.lks.length c2⟩ : RoM) = M[posN L id] := by
        rw [← hro, ← ex, ← ey]
      rw [e9]
      exact h9
  | false =>
    rw [hi] at cf
    simp only [Bool.false_eq_true, if_false]
    have hwas : wasN L id = (makeRo id).1 := by unfold wasN; rw [hi]; rfl
    have hmk : (makeRo id).1.rts = [] ∧ (makeRo id).1.lks = [] := by unfold makeRo zeroRo; split <;> exact ⟨rfl, rfl⟩
    have cm : ∀ W, Calls Tryz.prog 57 #[.int .i64 id] W fun e w' => ∃ o1 n1 c1 o2 n2 c2, e = .returned (.tuple #[.agg #[.int .i64 (makeRo id).1.id, .bool (makeRo id).1.up, .slice o1 n1 c1, .slice o2 n2 c2], .int .i64 (makeRo id).2]) ∧ Hid (HasRow w' (.slice o1 n1 c1) 6 0 [] ∧ HasRow w' (.slice o2 n2 c2) 2 0 []) ∧ Below W.heap.size W w' := fun W => (Fib.make_any id W).mono (fun e w' h => by
      obtain ⟨o1, n1, c1, o2, n2, c2, e1, h1, h2, h3⟩ := h
      rw [hmk.1] at h1
      rw [hmk.2] at h2
      exact ⟨o1, n1, c1, o2, n2, c2, e1, ⟨h1, h2⟩, h3⟩)
    rw [hwas]
    rcases lo with _ | a
    · obtain ⟨h0, h1⟩ : ln = 0 ∧ lc = 0 := by
        rcases hM.1.2 with ⟨e, h0⟩ | ⟨a, cap, e, _⟩
        · injection e with _ e2 e3
          exact ⟨e2, e3⟩
        · injection e with e; cases e
      subst h0 h1
      have hL0 : L = [] := List.eq_nil_of_length_eq_zero e2.symm
      have hM0 : M = [] := List.eq_nil_of_length_eq_zero (by rw [hlM]; exact e2.symm)
      have hp0 : posN L id = 0 := by omega
      rw [hp0] at cf ⊢
      subst hM0
      refine (part_nil gf so sn sc id w hf cf _ _ _ cm).mono ?_
      rintro e w' ⟨o1, n1, c1, o2, n2, c2, rfl, hz, hb⟩
      refine ⟨none, 0, 0, o1, n1, c1, o2, n2, c2, none, 0, 0, rfl, ⟨Lk.hasRow_nil _ 4, fun m hm => by cases hm⟩, ⟨Lk.hasRow_nil _ 4, fun m hm => by cases hm⟩, ⟨?_, ?_⟩, hb⟩
      · show HasRow _ _ 6 _ _; rw [hmk.1]; exact row_zero hz.1
      · show HasRow _ _ 2 _ _; rw [hmk.2]; exact row_zero hz.2
    · refine (part_no gf a so sn sc ln lc (posN L id) id w hf (by omega) (by omega) hc2 cf _ _ _ cm).mono ?_
      rintro e w' ⟨ob, nb, cb, o1, n1, c1, o2, n2, c2, rfl, hcase, hz, hb⟩
      have hMw := hM.keep hb
      refine ⟨some a, posN L id, lc, o1, n1, c1, o2, n2, c2, ob, nb, cb, rfl, hMw.take _ (by omega), ?_, ⟨?_, ?_⟩, hb⟩
      · rcases hcase with ⟨q1, q2, q3, a', q4⟩ | ⟨q1, q2, q3⟩
        · subst q2 q3 q4
          rw [List.drop_of_length_le (by omega)]
          exact hasRoM_empty _ _ _ (by omega)
        · subst q1 q2 q3
          by_cases hz0 : L.length = 0
          · have hM0 : M = [] := List.eq_nil_of_length_eq_zero (by omega)
            rw [hM0, List.drop_nil]
            have : ln - posN L id = 0 := by omega
            rw [this]
            exact hasRoM_empty _ _ _ (by omega)
          · obtain ⟨_, b, i, eb, _, _⟩ := Lk.HasRow.at hM.1 (by omega)
            injection eb with eb
            subst eb
            have := hMw.drop (posN L id) (by omega)
            rw [hlM, ← e2] at this
            rw [Lk.addr_add]
            exact this
      · show HasRow _ _ 6 _ _; rw [hmk.1]; exact row_zero hz.1
      · show HasRow _ _ 2 _ _; rw [hmk.2]; exact row_zero hz.2
end Go.Proofs.YtkjhnefbcnnjlaaGreat.Nt
namespace Go.Proofs.YtkjhnefbcnnjlaaGreat.Nt
open Go.RowKit Go.Shelf
open Go.Proofs.YtkjhnefbcnnjlaaGreat.Tr (info_parts append_row)
open Go.Proofs.YtkjhnefbcnnjlaaGreat.Addr (RowAt.lt RowAt.cell RowAt.drew RowAt.alloc)
attribute [-go_sem] Builtin.append_
theorem info_ro : (Tryz.prog.info? 51).map (fun i => (i.zero, i.size, i.bytes)) = some (some (.agg #[.int .i64 0, .bool false, .slice none 0 0, .slice none 0 0]), 4, 64) := by kernel_rfl
theorem empty_own (w : World) (e sz : Nat) : (w.alloc (.cells #[] e)).ownsRow w.heap.size e sz (.slice (some ⟨w.heap.size, 0, none⟩) 0 0) 0 [] :=
  World.ownsRow_made (base := w.heap.size) (e := e) (size := sz) w #[] 0 (Nat.le_refl _) (by decide) (by simp)
theorem eql_slice_nil {t e : Nat} (h : Tryz.prog.underlying t = some (.slice e)) (a : Option Addr) (l c : Nat) (w : World) : (binOp .eql t (.slice a l c) (.slice none 0 0)).run Tryz.prog w = .ok (.bool a.isNone) w := by
  simp only [binOp]
  simp [run_equal_slice_nil w t e a l c h]
set_option maxRecDepth 20000 in
set_option maxHeartbeats 400000 in
theorem clone_any (l : List RoM) (v : Value) (w : World) (h : HasRoM w v l) (hz : l.length ≤ 1000000000) :
    Calls Tryz.prog 29 #[v] w fun e w' => ∃ u, e = .returned u ∧ w'.ownsRow w.heap.size 51 4 u l.length (roCs l) ∧ Below w.heap.size w w' := by
  have hk := h.keep ((Below.refl _ w).alloc (Nat.le_refl _) (.cells #[] 51))
  have he := eql_slice_nil Tryz.underlying23
  rcases h.1.2 with ⟨rfl, h0⟩ | ⟨a, cap, rfl, g1, g2, g3, g4⟩
  · obtain rfl : l = [] := List.eq_nil_of_length_eq_zero h0
    clear h hk h0 hz
    go_enter Tryz.func29, Tryz.ntmps29
    go_wp2
    go_ret
    exact ⟨_, rfl, World.ownsRow_nil _ _ _ _, Below.refl _ _⟩
  · obtain ⟨v', w3, hrun, h1, h2⟩ := append_row info_ro Tryz.underlying23 rfl (by decide) (empty_own w 51 4) hk.1 (one_ros hk.2) (by omega) (by omega) (by simp)
    rw [Nat.zero_add, List.nil_append] at h1
    have hB : Below w.heap.size w w3 := ((Below.refl _ w).alloc (Nat.le_refl _) _).grown h2 (by simp) (fun k e => by simp [Value.ownBlock] at e; omega)
    have H1 : Hid (w3.ownsRow w.heap.size 51 4 v' l.length (roCs l)) := h1
    have hn9 : l.length ≤ 9223372036854775807 := by omega
    clear h hk h1 h2 g3 g4 hz
    generalize l.length = n at *
    go_enter Tryz.func29, Tryz.ntmps29
    go_wp2
    go_ret
    exact ⟨_, rfl, H1.out, hB⟩
theorem zeros_run (n : Nat) (w : World) (h0 : 0 < n) (hn : n ≤ 10000) : ∃ C W', (∀ ty, (Builtin.append_ #[23, 3] ty #[.slice none 0 0, .int .i64 (n : Int)]).run Tryz.prog w = .ok (.slice (some ⟨w.heap.size, 0, none⟩) n C) W') ∧ n ≤ C ∧ C ≤ 9223372036854775807 ∧
    W'.ownsRow w.heap.size 51 4 (.slice (some ⟨w.heap.size, 0, none⟩) 0 C) 0 [] ∧ Below w.heap.size w W' := by
  obtain ⟨i0, hi, hz0, hz1, hz2⟩ := info_parts info_ro
  have hr := fun ty => Lib.run_append_nil_zeros w 23 3 ty 51 i0 _ .i64 .i64 Tryz.underlying23 Tryz.underlying3 hi hz0 n h0 (by rw [hz1]; decide) (by omega) (by rw [hz2]; omega)
  refine ⟨_, _, hr, grownCap_ge _ _ _ _, ?_, ?_, ?_⟩
  · have := grownCap_le_maxLen w n 0 51 (by unfold maxLen; omega)
    unfold maxLen at this
    exact this
  · have := World.ownsRow_made (base := w.heap.size) (e := 51) (size := 4) w.drew (Builtin.zeroCells (Value.cells (.agg #[.int .i64 0, .bool false, .slice none 0 0, .slice none 0 0])) n ++ Builtin.zeroCells (Value.cells (.agg #[.int .i64 0, .bool false, .slice none 0 0, .slice none 0 0])) (grownCap w n 0 51 - n)) (grownCap w n 0 51) (Nat.le_refl _) (grownCap_le_maxLen w n 0 _ (by unfold maxLen; omega)) (by
      have := grownCap_ge w n 0 51
      rw [Array.size_append, size_zeroCells, size_zeroCells, show (Value.cells (.agg #[.int .i64 0, .bool false, .slice none 0 0, .slice none 0 0])).size = 4 from rfl]
      omega)
    exact this
  · exact ((Below.refl _ w).drew).alloc (Nat.le_refl _) _
set_option maxHeartbeats 1000000 in
set_option maxRecDepth 20000 in
theorem grow_any (n : Nat) (w : World) (hn : n ≤ 10000) :
    Calls Tryz.prog 61 #[.slice none 0 0, .int .i64 (n : Int)] w fun e w' => ∃ u, e = .returned u ∧ w'.ownsRow w.heap.size 51 4 u 0 [] ∧ Below w.heap.size w w' := by
  by_cases h0 : n = 0
  · subst h0
    go_enter Tryz.func61, Tryz.ntmps61
    go_wp2
    go_ret
    exact ⟨_, rfl, World.ownsRow_nil _ _ _ _, Below.refl _ _⟩
  · obtain ⟨C, W', hr, hC1, hC2, ho, hB⟩ := zeros_run n w (by omega) hn
    have h1 : (0 : Int) < (n : Int) := by omega
    have h1' : decide ((0 : Int) < (n : Int)) = true := by simp; omega
    have hz : 0 ≤ C := by omega
    have HO : Hid (W'.ownsRow w.heap.size 51 4 (.slice (some ⟨w.heap.size, 0, none⟩) 0 C) 0 []) := ho
    clear ho
    go_enter Tryz.func61, Tryz.ntmps61
    go_wp2
    go_ret
    exact ⟨_, rfl, HO.out, hB⟩
set_option maxHeartbeats 4000000 in
set_option maxRecDepth 20000 in
theorem concat_any (b : Nat) (la lb lc : List RoM) (oa ob oc : Option Addr) (na nb nc ca cb cc : Nat) (w : World) (hb : b < w.heap.size) (h0 : w.cell? ⟨b, 0, none⟩ = some (.slice oa na ca)) (h1 : w.cell? ⟨b, 1, none⟩ = some (.slice ob nb cb)) (h2 : w.cell? ⟨b, 2, none⟩ = some (.slice oc nc cc))
    (ea : na = la.length) (eb : nb = lb.length) (ec : nc = lc.length)
    (ha : HasRoM w (.slice oa na ca) la) (hbb : HasRoM w (.slice ob nb cb) lb) (hc : HasRoM w (.slice oc nc cc) lc) (hla : na ≤ 1000) (hlb : nb ≤ 1000) (hlc : nc ≤ 1000) :
    Calls Tryz.prog 34 #[.slice (some ⟨b, 0, none⟩) 3 3] w fun e w' => ∃ v, e = .returned v ∧ w'.ownsRow w.heap.size 51 4 v (la ++ (lb ++ lc)).length (roCs (la ++ (lb ++ lc))) ∧ Below w.heap.size w w' := by
  have EA : Hid (na = la.length) := ea
  have EB : Hid (nb = lb.length) := eb
  have EC : Hid (nc = lc.length) := ec
  have cg := fun w => grow_any (na + nb + nc) w (by omega)
  rw [show ((na + nb + nc : Nat) : Int) = (na : Int) + (nb : Int) + (nc : Int) by omega] at cg
  have HA : Hid (HasRoM w (.slice oa na ca) la) := ha
  have HB : Hid (HasRoM w (.slice ob nb cb) lb) := hbb
  have HC : Hid (HasRoM w (.slice oc nc cc) lc) := hc
  have hia : (na : Int) ≤ 1000 := by omega
  have hib : (nb : Int) ≤ 1000 := by omega
  have hic : (nc : Int) ≤ 1000 := by omega
  have hn0 : decide ((na : Int) < 0) = false := by simp
  have hn1 : decide ((na : Int) + (nb : Int) < 0) = false := by simp; omega
  have hn2 : decide ((na : Int) + (nb : Int) + (nc : Int) < 0) = false := by simp; omega
  clear ea eb ec ha hbb hc
  go_enter Tryz.func34, Tryz.ntmps34
  go_wp2_with fail
  refine wp_loop_rounds 4 ?_
  repeat any_goals (rw [rounds_succ]; go_wp2_with fail)
  go_at_call 61; refine (cg _).mono ?_; rintro e w1 ⟨v0, rfl, ho1, hb1⟩
  obtain ⟨v1, w2, hr1, ho2, hg1⟩ := append_row info_ro Tryz.underlying23 rfl (by decide) ho1 (HA.out.keep hb1).1 (one_ros (HA.out.keep hb1).2) (by rw [← EA.out]; omega) (by rw [← EA.out]; omega) hb1.size
  have hb2 : Below w.heap.size w w2 := hb1.grown hg1 hb1.size (fun k e => (ho1.lt k e).1)
  obtain ⟨v2, w3, hr2, ho3, hg2⟩ := append_row info_ro Tryz.underlying23 rfl (by decide) ho2 (HB.out.keep hb2).1 (one_ros (HB.out.keep hb2).2) (by rw [← EA.out, ← EB.out]; omega) (by rw [← EA.out, ← EB.out]; omega) hb2.size
  have hb3 : Below w.heap.size w w3 := hb2.grown hg2 hb2.size (fun k e => (ho2.lt k e).1)
  obtain ⟨v3, w4, hr3, ho4, hg3⟩ := append_row info_ro Tryz.underlying23 rfl (by decide) ho3 (HC.out.keep hb3).1 (one_ros (HC.out.keep hb3).2) (by rw [← EA.out, ← EB.out, ← EC.out]; omega) (by rw [← EA.out, ← EB.out, ← EC.out]; omega) hb3.size
  have hb4 : Below w.heap.size w w4 := hb3.grown hg3 hb3.size (fun k e => (ho3.lt k e).1)
  have HO : Hid (w4.ownsRow w.heap.size 51 4 v3 (la ++ (lb ++ lc)).length (roCs (la ++ (lb ++ lc)))) := by
    show w4.ownsRow _ _ _ _ _ _
    rw [roCs_app, roCs_app, List.length_append, List.length_append]
    simp only [Nat.zero_add, List.nil_append, List.append_assoc, Nat.add_assoc] at ho4
    exact ho4
  have y0 := (hb1.cell (p := ⟨b, 0, none⟩) hb).trans h0
  have y1 := (hb2.cell (p := ⟨b, 1, none⟩) hb).trans h1
  have y2 := (hb3.cell (p := ⟨b, 2, none⟩) hb).trans h2
  clear ho1 ho2 ho3 ho4 hg1 hg2 hg3 hb1 hb2 hb3
  go_wp2_with fail
  refine wp_loop_rounds 4 ?_
  repeat any_goals (rw [rounds_succ]; go_wp2_with fail)
  go_ret
  exact ⟨_, rfl, HO.out, hb4⟩
end Go.Proofs.YtkjhnefbcnnjlaaGreat.Nt
namespace Go.Proofs.YtkjhnefbcnnjlaaGreat.Fib
open Go.RowKit
open Go.Proofs.YtkjhnefbcnnjlaaGreat.Addr (RowAt below2 below_new RowAt.lt RowAt.below RowAt.drew RowAt.new RowAt.alloc RowAt.set1 RowAt.far1 cells4 gset grefl bset results_cell)
open Go.Proofs.YtkjhnefbcnnjlaaGreat.Lk (Lk HasLks HasLks.keep hasRow_own)
open Go.Proofs.YtkjhnefbcnnjlaaGreat.Tr (HasRts HasRts.keep)
/-- a row of a block that was not there -/
def NewV (B : Nat) (v : Value) : Prop := ∀ b, v.ownBlock = some b → B ≤ b
theorem NewV.mono {A B : Nat} {v : Value} (h : NewV B v) (hab : A ≤ B) : NewV A v := fun b e => Nat.le_trans hab (h b e)
set_option maxHeartbeats 2000000 in
theorem fresh_new (R : Ro) (a b : Value) (w : World) (ha : HasRts w a R.rts) (hb : HasLks w b R.lks) (h1 : R.rts.length ≤ 1000) (h2 : R.lks.length ≤ 1000) :
    Calls Tryz.prog 30 #[.agg #[.int .i64 R.id, .bool R.up, a, b]] w fun e w' => ∃ o1 n1 m1 o2 n2 m2, e = .returned (.agg #[.int .i64 R.id, .bool R.up, .slice o1 n1 m1, .slice o2 n2 m2]) ∧ HasRts w' (.slice o1 n1 m1) R.rts ∧ HasLks w' (.slice o2 n2 m2) R.lks ∧ NewV w.heap.size (.slice o1 n1 m1) ∧ NewV w.heap.size (.slice o2 n2 m2) ∧ Below w.heap.size w w' := by
  have C1 : Hid (∀ W, HasRts W a R.rts → Calls Tryz.prog 52 #[a] W fun e w' => ∃ o n m, e = .returned (.slice o n m) ∧ HasRts w' (.slice o n m) R.rts ∧ NewV W.heap.size (.slice o n m) ∧ Below W.heap.size W w') := by
    intro W hW
    refine (Tr.clone_any R.rts a W hW (by omega)).mono ?_
    rintro e w' ⟨u, rfl, ho, hb'⟩
    have hh : HasRts w' u R.rts := hasRow_own ho
    obtain ⟨o, c, rfl, _⟩ := Lk.HasRow.slice hh
    exact ⟨_, _, _, rfl, hh, fun b e => (ho.lt b e).1, hb'⟩
  have C2 : Hid (∀ W, HasLks W b R.lks → Calls Tryz.prog 53 #[b] W fun e w' => ∃ o n m, e = .returned (.slice o n m) ∧ HasLks w' (.slice o n m) R.lks ∧ NewV W.heap.size (.slice o n m) ∧ Below W.heap.size W w') := by
    intro W hW
    refine (Lk.clone_any R.lks b W hW (by omega)).mono ?_
    rintro e w' ⟨u, rfl, ho, hb'⟩
    have hh : HasLks w' u R.lks := hasRow_own ho
    obtain ⟨o, c, rfl, _⟩ := Lk.HasRow.slice hh
    exact ⟨_, _, _, rfl, hh, fun b e => (ho.lt b e).1, hb'⟩
  obtain ⟨o1, n1, m1, rfl⟩ : ∃ o n m, a = .slice o n m := by obtain ⟨o, c, rfl, _⟩ := Lk.HasRow.slice ha; exact ⟨_, _, _, rfl⟩
  obtain ⟨o2, n2, m2, rfl⟩ : ∃ o n m, b = .slice o n m := by obtain ⟨o, c, rfl, _⟩ := Lk.HasRow.slice hb; exact ⟨_, _, _, rfl⟩
  obtain ⟨X, hX⟩ : ∃ X, X = (w.alloc (.cells #[.int .i64 R.id, .bool R.up, .slice o1 n1 m1, .slice o2 n2 m2] 51)).alloc (.cells #[.int .i64 0, .bool false, .slice none 0 0, .slice none 0 0] 51) := ⟨_, rfl⟩
  have hB : Below w.heap.size w X := by rw [hX]; exact below_new (below_new (Below.refl _ _) _) _
  have r0 : RowAt X w.heap.size [.int .i64 R.id, .bool R.up, .slice o1 n1 m1, .slice o2 n2 m2] 51 := by rw [hX]; exact (RowAt.new _ _ _).alloc _
  have r1 : RowAt X (w.heap.size + 1) [.int .i64 0, .bool false, .slice none 0 0, .slice none 0 0] 51 := by rw [hX, ← World.size_alloc w (.cells #[.int .i64 R.id, .bool R.up, .slice o1 n1 m1, .slice o2 n2 m2] 51)]; exact RowAt.new _ _ _
  have HA : Hid (HasRts X (.slice o1 n1 m1) R.rts ∧ HasLks X (.slice o2 n2 m2) R.lks) := ⟨ha.keep hB, hb.keep hB⟩
  clear ha hb h1 h2
  go_enter Tryz.func30, Tryz.ntmps30
  go_upto_region 1 with fail
  rw [← hX]
  clear hX
  obtain ⟨p0, p1, p2, p3, pf⟩ := cells4 r0
  go_region_with (first
    | (go_at_call 52
       refine (C1.out _ (HA.out.1.keep (Below.refl _ _).drew)).mono ?_
       rintro e w1 ⟨o3, n3, m3, rfl, hh1, hn1', hb1'⟩
       have hb1 : Below X.heap.size X w1 := below2 (Below.refl _ _).drew hb1'
       have hn1 : NewV w.heap.size (.slice o3 n3 m3) := hn1'.mono (by have := hB.size; exact this)
       obtain ⟨p0, p1, p2, p3, pf⟩ := cells4 (RowAt.below r0 hb1))
    | (go_at_call 53
       refine (C2.out _ (HA.out.2.keep hb1)).mono ?_
       rintro e w2 ⟨o4, n4, m4, rfl, hh2, hn2', hb2⟩
       have hb3 : Below X.heap.size X w2 := below2 hb1 hb2
       have hn2 : NewV w.heap.size (.slice o4 n4 m4) := hn2'.mono (by have := hB.size; have := hb1.size; omega)
       obtain ⟨p0, p1, p2, p3, pf⟩ := cells4 (RowAt.below r0 hb3)))
  all_goals
    have R2 := RowAt.below r0 hb3
    have R1 := RowAt.below r1 hb3
    have hh3 := hh1.keep hb2
    obtain ⟨Y, hY⟩ : ∃ Y, Y = (w2.setCell ⟨w.heap.size, 2, none⟩ (.slice o3 n3 m3)).setCell ⟨w.heap.size, 3, none⟩ (.slice o4 n4 m4) := ⟨_, rfl⟩
    have g2 : w2.grownBy Y (some w.heap.size) := by rw [hY]; exact gset (gset (grefl _ _))
    have HR : Hid (HasRts Y (.slice o3 n3 m3) R.rts ∧ HasLks Y (.slice o4 n4 m4) R.lks) := ⟨rts_apart hh3 R2 g2, lks_apart hh2 R2 g2⟩
    have y0 : RowAt Y w.heap.size [.int .i64 R.id, .bool R.up, .slice o3 n3 m3, .slice o4 n4 m4] 51 := by rw [hY]; exact (R2.set1 2 _).set1 3 _
    have y1 : RowAt Y (w.heap.size + 1) [.int .i64 0, .bool false, .slice none 0 0, .slice none 0 0] 51 := by rw [hY]; exact (R1.far1 (by omega) _ _).far1 (by omega) _ _
    have hBY : Below w.heap.size w Y := by rw [hY]; exact bset (bset (below2 hB hb3) (Nat.le_refl _)) (Nat.le_refl _)
    rw [← hY]
    clear hY hh1 hh2 hh3 R2 R1 hb1 hb2 hb3 C1 C2 HA r0 r1 g2 p0 p1 p2 p3 pf hB
    obtain ⟨p0, p1, p2, p3, pf⟩ := cells4 y0
    obtain ⟨q0, q1, q2, q3, qf⟩ := cells4 y1
    go_wp2_with fail
    (try simp only [Exit.inBlock, Exit.then])
    refine bodyPost_ret (v := .agg #[.int .i64 R.id, .bool R.up, .slice o3 n3 m3, .slice o4 n4 m4]) ?_ rfl ⟨_, _, _, _, _, _, rfl, ?_, ?_, hn1, hn2, ?_⟩
    · rw [results_cell rfl]
      go_simp
    · exact rts_apart HR.out.1 y1 (set4_gr _ _ _ _ _ _)
    · exact lks_apart HR.out.2 y1 (set4_gr _ _ _ _ _ _)
    · exact set4_bl hBY (by omega) _ _ _ _
end Go.Proofs.YtkjhnefbcnnjlaaGreat.Fib
