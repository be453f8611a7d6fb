/- For all routes, a kind and an address: spoorlaw15.TrieCuts returns true, and changes nothing that was there. No condition. -/
import Derived.Test.YtjgieaijdkmadaaTqE
import Derived.Test.YtjgieaijdkmadaaTqF
import Derived.Test.YtjgieaijdkmadaaRows
import Derived.Test.YtjgieaijdkmadaaTqB
import Derived.Test.YtjgieaijdkmadaaAddrHalves
import Derived.BigQuiet
import Derived.ProofKit
import Derived.OpenShut
import Derived.ShutString
import Derived.SizedLaws
set_option linter.unusedVariables false
namespace Go.Proofs.Ytjgieaijdkmadaa.Tr
open Go.Proofs.Ytjgieaijdkmadaa.Addr (Pf okP hasB coversB kP hiN loN rightB lastE lastN nextE freeN wideN)
open Go.Proofs.Ytjgieaijdkmadaa.Ct
/-- the greatest of the cuts that are not above a -/
def atN (a : Nat) : List Nat → Nat → Nat
  | [], z => z
  | x :: l, z => atN a l (if x ≤ a then x else z)
theorem atN_snoc (a : Nat) (l : List Nat) (x : Nat) : ∀ z, atN a (l ++ [x]) z = if x ≤ a then x else atN a l z := by
  induction l with
  | nil => intro z; rfl
  | cons y l ih => intro z; exact ih _
theorem atN_spec (a : Nat) : ∀ (l : List Nat) (z : Nat), Ct.Up l → (∀ x ∈ l, z ≤ x) → z ≤ a → (atN a l z ≤ a ∧ (∀ x ∈ l, x ≤ a → x ≤ atN a l z) ∧ z ≤ atN a l z) := by
  intro l
  induction l with
  | nil => intro z _ _ h; exact ⟨h, fun x hx => (by cases hx), Nat.le_refl _⟩
  | cons y l ih =>
    intro z hu hz ha
    have hp := List.pairwise_cons.1 hu
    show (atN a l (if y ≤ a then y else z) ≤ a ∧ _ ∧ z ≤ atN a l (if y ≤ a then y else z))
    have hzy := hz y List.mem_cons_self
    by_cases hy : y ≤ a
    · obtain ⟨i1, i2, i3⟩ := ih y hp.2 (fun x hx => Nat.le_of_lt (hp.1 x hx)) hy
      rw [if_pos hy]
      refine ⟨i1, fun x hx hxa => ?_, by omega⟩
      show x ≤ atN a l (if y ≤ a then y else z)
      rw [if_pos hy]
      rcases List.mem_cons.1 hx with rfl | hx
      · exact i3
      · exact i2 x hx hxa
    · obtain ⟨i1, i2, i3⟩ := ih z hp.2 (fun x hx => hz x (List.mem_cons_of_mem _ hx)) ha
      rw [if_neg hy]
      refine ⟨i1, fun x hx hxa => ?_, i3⟩
      show x ≤ atN a l (if y ≤ a then y else z)
      rw [if_neg hy]
      rcases List.mem_cons.1 hx with rfl | hx
      · exact absurd hxa hy
      · exact i2 x hx hxa
theorem cuts_ok {l : List Rt} {six : Bool} (h : (cutsT l six).2 = 0) : okT l = true ∧ (cutsT l six).1 = sortN (0 :: partsC l six) := by
  unfold cutsT at h ⊢
  cases hk : okT l with
  | false => rw [hk] at h; cases h
  | true => exact ⟨rfl, rfl⟩
theorem cuts_not {l : List Rt} {six : Bool} (h : ¬ (cutsT l six).2 = 0) : cutsT l six = ([], 2) := by
  unfold cutsT at h ⊢
  cases hk : okT l with
  | false => rfl
  | true => rw [hk] at h; exact absurd rfl h
theorem cuts_head {l : List Rt} {six : Bool} (h : (cutsT l six).2 = 0) : ∃ t, (cutsT l six).1 = 0 :: t ∧ Ct.Up (0 :: t) := by
  rw [(cuts_ok h).2]
  have hu := up_sortN (0 :: partsC l six)
  have h0 : 0 ∈ sortN (0 :: partsC l six) := (mem_sortN _ _).2 List.mem_cons_self
  generalize sortN (0 :: partsC l six) = m at *
  cases m with
  | nil => cases h0
  | cons x t =>
    have : x = 0 := by
      rcases List.mem_cons.1 h0 with e | e
      · exact e.symm
      · have := (List.pairwise_cons.1 hu).1 0 e
        omega
    subst this
    exact ⟨t, rfl, hu⟩
theorem sub_len : ∀ (m l : List Nat), Ct.Up m → (∀ x ∈ m, x ∈ l) → m.length ≤ l.length := by
  intro m
  induction m with
  | nil => intro l _ _; exact Nat.zero_le _
  | cons y m ih =>
    intro l hu h
    have hp := List.pairwise_cons.1 hu
    have hy := h y List.mem_cons_self
    have h1 := ih (l.erase y) hp.2 (fun x hx => (List.mem_erase_of_ne (by have := hp.1 x hx; omega)).2 (h x (List.mem_cons_of_mem _ hx)))
    have h2 := List.length_erase_of_mem hy
    have h3 := List.length_pos_of_mem hy
    rw [List.length_cons]
    omega
theorem cuts_len (l : List Rt) (six : Bool) : (sortN (0 :: partsC l six)).length ≤ 2 * l.length + 1 := by
  have h1 := sub_len _ _ (up_sortN (0 :: partsC l six)) (fun x hx => (mem_sortN _ _).1 hx)
  have h2 := partsC_len l six
  rw [List.length_cons] at h1
  omega
theorem pow_kP {p : Pf} (h : okP p = true) : p.n + 2 ^ kP p = lastN p + 1 := by
  unfold lastN freeN
  have := Nat.two_pow_pos (kP p)
  omega
theorem cut_same {l : List Rt} {six : Bool} {a : Nat} (h : (cutsT l six).2 = 0) (ha : rightB six a = true) : longT l six (atN a (cutsT l six).1 0) = longT l six a := by
  obtain ⟨k1, k2⟩ := cuts_ok h
  obtain ⟨t, ht, hu⟩ := cuts_head h
  obtain ⟨s1, s2, s3⟩ := atN_spec a (cutsT l six).1 0 (by rw [ht]; exact hu) (fun x _ => Nat.zero_le _) (Nat.zero_le _)
  obtain ⟨z, hz⟩ : ∃ z, z = atN a (cutsT l six).1 0 := ⟨_, rfl⟩
  rw [← hz] at s1 s2 s3 ⊢
  have ha2 : a < 2 ^ wideN six := of_decide_eq_true ha
  have hr : rightB six z = true := decide_eq_true (by omega)
  have hmem : ∀ r ∈ l, r.pf.six = six → ∀ y ∈ partC six r, y ≤ a → y ≤ z := fun r hr hs y hy hya => s2 y (by
    rw [k2, mem_sortN]
    exact List.mem_cons_of_mem _ (List.mem_flatMap.2 ⟨r, hr, hy⟩)) hya
  have hhas : ∀ r ∈ l, hasR six z r = hasR six a r := fun r hrl => by
    have ok := fit_okR (((okT_iff _).1 k1).2.1 r hrl)
    unfold hasR
    rw [Bool.eq_iff_iff, has_iff ok, has_iff ok]
    have hpw := pow_kP ok
    have hll := Go.Proofs.Ytjgieaijdkmadaa.Addr.last_lt ok
    constructor
    · rintro ⟨g1, g2, g3, g4⟩
      refine ⟨g1, ha2, by omega, ?_⟩
      rcases Nat.lt_or_ge a (r.pf.n + 2 ^ kP r.pf) with g | g
      · exact g
      · exfalso
        have hp : partC six r = [r.pf.n, lastN r.pf + 1] := by
          unfold partC lastE nextE
          rw [if_pos g1, if_pos ok]
          have e1 : rightB six (lastN r.pf) = true := decide_eq_true (by rw [← g1]; exact hll)
          have e2 : ¬ lastN r.pf = 2 ^ wideN six - 1 := by omega
          show [r.pf.n, (if rightB six (lastN r.pf) = true then (if lastN r.pf = 2 ^ wideN six - 1 then ((0, 3) : Nat × Int) else (lastN r.pf + 1, 0)) else (0, 2)).1] = _
          rw [if_pos e1, if_neg e2]
        have := hmem r hrl g1 (lastN r.pf + 1) (by rw [hp]; simp) (by omega)
        omega
    · rintro ⟨g1, g2, g3, g4⟩
      refine ⟨g1, by omega, ?_, by omega⟩
      exact hmem r hrl g1 r.pf.n (by unfold partC; rw [if_pos g1]; simp) g3
  unfold longT
  rw [hr, ha]
  have hf : l.filter (hasR six z) = l.filter (hasR six a) := List.filter_congr hhas
  rw [hf]
end Go.Proofs.Ytjgieaijdkmadaa.Tr
namespace Go.Proofs.Ytjgieaijdkmadaa
namespace trieCuts
open Go.ChangeShapes Go.WideShapes Go.ChangeAt Go.RowKit
open Go.ChangeMaps (open_string shut_string)
open Go.Proofs.Ytjgieaijdkmadaa.Tr
open Go.Proofs.Ytjgieaijdkmadaa.Tl (BoolIs lives_any)
open Go.Proofs.Ytjgieaijdkmadaa.Ct (HasAds HasAds.keep cutsT HasAds.cell)
open Go.Proofs.Ytjgieaijdkmadaa.Msg (eqP eqP_iff eqP_not pf_neq pf_eqb Ac FitA)
open Go.Proofs.Ytjgieaijdkmadaa.Addr (Pf pfV adV hasB coversB hiN loN rightB cmpN RowAt below2 below_drew below_new bset RowAt.lt RowAt.cell RowAt.frozen RowAt.below RowAt.drew RowAt.new RowAt.alloc RowAt.gkeep RowAt.set1 Bl bl_ne wp_region_bl bl_call ad_neq cells2 cells4)
theorem own : ownKnob Try.prog.godebug = none := by kernel_rfl
theorem laidOut : laidOutB Try.prog = true := by kernel_rfl
set_option maxHeartbeats 16000000 in
set_option maxRecDepth 20000 in
theorem walk_bad (six : Bool) (aa : Nat) (l : List Rt) (o : Option Addr) (n c : Nat) (w : World) (h0 : HasRts w (.slice o n c) l)
    (c1 : ∀ W v, HasRts W v l → Calls Try.prog 21 #[v, .bool six] W fun e w' => ∃ o1 m1, e = .returned (.tuple #[.slice o1 0 m1, .int .i64 2]) ∧ HasAds w' (.slice o1 0 m1) [] ∧ Below W.heap.size W w') :
    Calls Try.prog 7 #[.slice o n c, .bool six, .agg #[.int .u64 (hiN aa : Int), .int .u64 (loN aa : Int)]] w (BoolIs true w) := by
  have hB := Below.refl w.heap.size w
  go_enter Try.func7, Try.ntmps7
  obtain ⟨Y1, hY⟩ : ∃ Y, Y = (w.alloc (.cells #[.int .u64 (hiN aa : Int), .int .u64 (loN aa : Int)] 25)) := ⟨_, rfl⟩
  have hbY : Below w.heap.size w Y1 := by rw [hY]; exact below_new (Below.refl _ _) _
  have hle : w.heap.size ≤ w.heap.size := hB.size
  obtain ⟨ga, hga⟩ : ∃ g, g = w.heap.size := ⟨_, rfl⟩
  have ra : RowAt Y1 ga [.int .u64 (hiN aa : Int), .int .u64 (loN aa : Int)] 25 := by
    have h := RowAt.new w [.int .u64 (hiN aa : Int), .int .u64 (loN aa : Int)] 25
    rw [hga, hY]; exact h
  have lea : w.heap.size ≤ ga := by omega
  replace h0 := h0.keep hbY
  replace hB := below2 hB hbY
  go_upto_region 1 with fail
  rw [← hY, ← hga]
  clear hY hbY hle hga
  go_wp2_with fail
  go_at_call 15; refine (lives_any _).mono ?_; rintro e w2 ⟨rfl, hb⟩
  replace ra := RowAt.below ra hb
  replace h0 := h0.keep hb
  replace hB := below2 hB hb
  clear hb
  go_wp2_with fail
  go_at_call 21; refine (c1 _ _ h0).mono ?_; rintro e w3 ⟨o1, m1, rfl, hC, hb⟩
  replace ra := RowAt.below ra hb
  replace h0 := h0.keep hb
  replace hB := below2 hB hb
  clear hb
  go_wp2_with fail
  go_ret
  exact ⟨rfl, hB⟩
set_option maxHeartbeats 16000000 in
set_option maxRecDepth 20000 in
theorem walk_off (six : Bool) (aa : Nat) (N : Nat) (C : List Nat) (l : List Rt) (o : Option Addr) (n c : Nat) (w : World) (h0 : HasRts w (.slice o n c) l)
    (c1 : ∀ W v, HasRts W v l → Calls Try.prog 21 #[v, .bool six] W fun e w' => ∃ o1 m1, e = .returned (.tuple #[.slice o1 N m1, .int .i64 0]) ∧ HasAds w' (.slice o1 N m1) C ∧ Below W.heap.size W w') (c2 : ∀ W, Calls Try.prog 24 #[.bool six, .agg #[.int .u64 (hiN aa : Int), .int .u64 (loN aa : Int)]] W fun e w' => e = .returned (.bool false) ∧ Below W.heap.size W w') :
    Calls Try.prog 7 #[.slice o n c, .bool six, .agg #[.int .u64 (hiN aa : Int), .int .u64 (loN aa : Int)]] w (BoolIs true w) := by
  have hB := Below.refl w.heap.size w
  go_enter Try.func7, Try.ntmps7
  obtain ⟨Y1, hY⟩ : ∃ Y, Y = (w.alloc (.cells #[.int .u64 (hiN aa : Int), .int .u64 (loN aa : Int)] 25)) := ⟨_, rfl⟩
  have hbY : Below w.heap.size w Y1 := by rw [hY]; exact below_new (Below.refl _ _) _
  have hle : w.heap.size ≤ w.heap.size := hB.size
  obtain ⟨ga, hga⟩ : ∃ g, g = w.heap.size := ⟨_, rfl⟩
  have ra : RowAt Y1 ga [.int .u64 (hiN aa : Int), .int .u64 (loN aa : Int)] 25 := by
    have h := RowAt.new w [.int .u64 (hiN aa : Int), .int .u64 (loN aa : Int)] 25
    rw [hga, hY]; exact h
  have lea : w.heap.size ≤ ga := by omega
  replace h0 := h0.keep hbY
  replace hB := below2 hB hbY
  go_upto_region 1 with fail
  rw [← hY, ← hga]
  clear hY hbY hle hga
  go_wp2_with fail
  go_at_call 15; refine (lives_any _).mono ?_; rintro e w2 ⟨rfl, hb⟩
  replace ra := RowAt.below ra hb
  replace h0 := h0.keep hb
  replace hB := below2 hB hb
  clear hb
  go_wp2_with fail
  go_at_call 21; refine (c1 _ _ h0).mono ?_; rintro e w3 ⟨o1, m1, rfl, hC, hb⟩
  replace ra := RowAt.below ra hb
  replace h0 := h0.keep hb
  replace hB := below2 hB hb
  clear hb
  obtain ⟨a0, a1, af⟩ := cells2 ra
  go_wp2_with fail
  clear a0 a1 af
  go_at_call 24; refine (c2 _).mono ?_; rintro e w4 ⟨rfl, hb⟩
  replace ra := RowAt.below ra hb
  replace h0 := h0.keep hb
  replace hC := hC.keep hb
  replace hB := below2 hB hb
  clear hb
  go_wp2_with fail
  go_ret
  exact ⟨rfl, hB⟩
set_option maxHeartbeats 16000000 in
set_option maxRecDepth 20000 in
theorem walk_ok (six : Bool) (aa : Nat) (xA : Bool) (xB xC xD xE xF : Int) (zx : Int) (N : Nat) (C : List Nat) (l : List Rt) (o : Option Addr) (n c : Nat) (w : World) (h0 : HasRts w (.slice o n c) l)
    (c1 : ∀ W v, HasRts W v l → Calls Try.prog 21 #[v, .bool six] W fun e w' => ∃ o1 m1, e = .returned (.tuple #[.slice o1 N m1, .int .i64 0]) ∧ HasAds w' (.slice o1 N m1) C ∧ Below W.heap.size W w') (c2 : ∀ W, Calls Try.prog 24 #[.bool six, .agg #[.int .u64 (hiN aa : Int), .int .u64 (loN aa : Int)]] W fun e w' => e = .returned (.bool true) ∧ Below W.heap.size W w') (hNi : (N : Int) ≤ 9223372036854775807) (HN : Hid (N = C.length)) (HC0 : Hid (∃ t, C = 0 :: t)) (HU : Hid (Ct.Up C)) (HF : Hid (∀ x ∈ C, x < 2 ^ 128)) (ha : Hid (aa < 2 ^ 128))
    (z : Nat) (HZ : Hid (atN aa C 0 = z)) (c3 : ∀ W v, HasRts W v l → Calls Try.prog 19 #[v, .bool six, .agg #[.int .u64 (hiN z : Int), .int .u64 (loN z : Int)]] W fun e w' => e = .returned (.tuple #[.agg #[.bool xA, .int .u64 xB, .int .u64 xC, .int .i64 xD, .int .u8 xE, .int .i64 xF], .int .i64 zx]) ∧ Below W.heap.size W w') (c4 : ∀ W v, HasRts W v l → Calls Try.prog 19 #[v, .bool six, .agg #[.int .u64 (hiN aa : Int), .int .u64 (loN aa : Int)]] W fun e w' => e = .returned (.tuple #[.agg #[.bool xA, .int .u64 xB, .int .u64 xC, .int .i64 xD, .int .u8 xE, .int .i64 xF], .int .i64 zx]) ∧ Below W.heap.size W w') (heq : ∀ W, (binOp .eql 32 (.agg #[.bool xA, .int .u64 xB, .int .u64 xC, .int .i64 xD, .int .u8 xE, .int .i64 xF]) (.agg #[.bool xA, .int .u64 xB, .int .u64 xC, .int .i64 xD, .int .u8 xE, .int .i64 xF])).run Try.prog W = .ok (.bool true) W) :
    Calls Try.prog 7 #[.slice o n c, .bool six, .agg #[.int .u64 (hiN aa : Int), .int .u64 (loN aa : Int)]] w (BoolIs true w) := by
  have hB := Below.refl w.heap.size w
  go_enter Try.func7, Try.ntmps7
  obtain ⟨Y1, hY⟩ : ∃ Y, Y = (w.alloc (.cells #[.int .u64 (hiN aa : Int), .int .u64 (loN aa : Int)] 25)) := ⟨_, rfl⟩
  have hbY : Below w.heap.size w Y1 := by rw [hY]; exact below_new (Below.refl _ _) _
  have hle : w.heap.size ≤ w.heap.size := hB.size
  obtain ⟨ga, hga⟩ : ∃ g, g = w.heap.size := ⟨_, rfl⟩
  have ra : RowAt Y1 ga [.int .u64 (hiN aa : Int), .int .u64 (loN aa : Int)] 25 := by
    have h := RowAt.new w [.int .u64 (hiN aa : Int), .int .u64 (loN aa : Int)] 25
    rw [hga, hY]; exact h
  have lea : w.heap.size ≤ ga := by omega
  replace h0 := h0.keep hbY
  replace hB := below2 hB hbY
  go_upto_region 1 with fail
  rw [← hY, ← hga]
  clear hY hbY hle hga
  go_wp2_with fail
  go_at_call 15; refine (lives_any _).mono ?_; rintro e w2 ⟨rfl, hb⟩
  replace ra := RowAt.below ra hb
  replace h0 := h0.keep hb
  replace hB := below2 hB hb
  clear hb
  go_wp2_with fail
  go_at_call 21; refine (c1 _ _ h0).mono ?_; rintro e w3 ⟨o1, m1, rfl, hC, hb⟩
  replace ra := RowAt.below ra hb
  replace h0 := h0.keep hb
  replace hB := below2 hB hb
  clear hb
  obtain ⟨a0, a1, af⟩ := cells2 ra
  go_wp2_with fail
  clear a0 a1 af
  go_at_call 24; refine (c2 _).mono ?_; rintro e w4 ⟨rfl, hb⟩
  replace ra := RowAt.below ra hb
  replace h0 := h0.keep hb
  replace hC := hC.keep hb
  replace hB := below2 hB hb
  clear hb
  obtain ⟨Y5, hY⟩ : ∃ Y, Y = (w4.alloc (.cells #[.int .u64 0, .int .u64 0] 25)) := ⟨_, rfl⟩
  have hbY : Below w4.heap.size w4 Y5 := by rw [hY]; exact below_new (Below.refl _ _) _
  have hle : w.heap.size ≤ w4.heap.size := hB.size
  obtain ⟨gz, hgz⟩ : ∃ g, g = w4.heap.size := ⟨_, rfl⟩
  have rz : RowAt Y5 gz [.int .u64 0, .int .u64 0] 25 := by
    have h := RowAt.new w4 [.int .u64 0, .int .u64 0] 25
    rw [hgz, hY]; exact h
  have lez : w.heap.size ≤ gz := by omega
  have neaz : ga ≠ gz := by have := RowAt.lt ra; omega
  replace ra := RowAt.below ra hbY
  replace h0 := h0.keep hbY
  replace hC := hC.keep hbY
  replace hB := below2 hB hbY
  go_upto_region 7 with fail
  rw [← hY, ← hgz]
  clear hY hbY hle hgz
  obtain ⟨t, ht⟩ := HC0.out
  have hp1 : 0 < C.length := by rw [ht]; simp
  have hp2 : 0 < N := by rw [HN.out]; exact hp1
  have hc0 : C[0] = 0 := by simp only [ht, List.getElem_cons_zero]
  obtain ⟨g1, i1, e1, hg1, q0, q1⟩ := HasAds.cell hC 0 hp1
  rw [hc0] at q0 q1
  simp only [Nat.zero_mul, Nat.add_zero, show (hiN 0 : Int) = 0 by decide, show (loN 0 : Int) = 0 by decide] at q0 q1
  subst e1
  clear ht hc0 hp1
  have hni : (0 : Int) < (N : Int) := by omega
  have hn0 : ¬ (N : Int) = 0 := by omega
  have hn1 : ((N : Int) == 0) = false := by rw [beq_eq_false_iff_ne]; exact hn0
  have hn2 : ¬ N = 0 := by omega
  have hzz : ∀ W, (binOp .neq 25 (.agg #[.int .u64 0, .int .u64 0]) (.agg #[.int .u64 0, .int .u64 0])).run Try.prog W = .ok (.bool false) W := fun W => ad_neq 0 0 W
  have u0 : ∀ p : Bl Y5, p.W.cell? ⟨g1, i1, none⟩ = some (.int .u64 0) := fun p => (p.h.cell (p := ⟨g1, i1, none⟩) hg1).trans q0
  have u1 : ∀ p : Bl Y5, p.W.cell? ⟨g1, i1 + 1, none⟩ = some (.int .u64 0) := fun p => (p.h.cell (p := ⟨g1, i1 + 1, none⟩) hg1).trans q1
  have v0 : ∀ p : Bl Y5, p.W.cell? ⟨gz, 0, none⟩ = some (.int .u64 0) := fun p => (rz.below p.h).cell 0
  have v1 : ∀ p : Bl Y5, p.W.cell? ⟨gz, 1, none⟩ = some (.int .u64 0) := fun p => (rz.below p.h).cell 1
  haveI := bl_ne Y5
  refine wp_region_bl (by kernel_rfl) (by kernel_rfl) ?_
  repeat (go_big_quiet_step (fail))
  refine wpQuiet_nil ?_
  intro W1 hw'
  obtain ⟨⟨wy, hq⟩, hw2⟩ := hw'
  subst hw2
  replace ra := RowAt.below ra hq
  replace h0 := h0.keep hq
  replace hC := hC.keep hq
  replace hB := below2 hB hq
  clear u0 u1 v0 v1 rz hq q0 q1 hg1
  obtain ⟨g2, i2, e2, hg1, q0, q1⟩ := HasAds.cell hC 0 (by rw [← HN.out]; exact hp2)
  have hc0 : C[0]'(by rw [← HN.out]; exact hp2) = 0 := by
    obtain ⟨t, ht⟩ := HC0.out
    simp only [ht, List.getElem_cons_zero]
  rw [hc0] at q0 q1
  injection e2 with e2
  injection e2 with e3 e4
  subst e3 e4
  simp only [Nat.zero_mul, Nat.add_zero, show (hiN 0 : Int) = 0 by decide, show (loN 0 : Int) = 0 by decide] at q0 q1
  clear hc0
  obtain ⟨Y, hY⟩ : ∃ Y, Y = W1.alloc (.cells #[.int .u64 0, .int .u64 0] 25) := ⟨_, rfl⟩
  have hbY : Below W1.heap.size W1 Y := by rw [hY]; exact below_new (Below.refl _ _) _
  obtain ⟨gm, hgm⟩ : ∃ g, g = W1.heap.size := ⟨_, rfl⟩
  have rm : RowAt Y gm [.int .u64 (hiN (atN aa (C.take 0) 0) : Int), .int .u64 (loN (atN aa (C.take 0) 0) : Int)] 25 := by
    have e0 : atN aa (C.take 0) 0 = 0 := by rw [List.take_zero]; rfl
    rw [hgm, hY, e0, show (hiN 0 : Int) = 0 by decide, show (loN 0 : Int) = 0 by decide]; exact RowAt.new _ _ _
  go_upto_region 10 with fail
  rw [← hY, ← hgm]
  clear hY q0 q1 hg1
  have HGM : Hid (gm = W1.heap.size) := hgm
  clear hgm
  have Hcm : Hid (∀ (x y : Nat) (W : World), x < 2 ^ 128 → y < 2 ^ 128 → Calls Try.prog 27 #[.agg #[.int .u64 (hiN x : Int), .int .u64 (loN x : Int)], .agg #[.int .u64 (hiN y : Int), .int .u64 (loN y : Int)]] W fun e w' => e = .returned (.int .i64 (cmpN x y)) ∧ Below W.heap.size W w') := fun x y W hx hy => Go.Proofs.Ytjgieaijdkmadaa.Addr.cmp_any x y W hx hy
  go_wp2_with fail
  go_loopw [60] (fun i wr => ∃ k : Nat, k ≤ N ∧ i = .int .i64 k ∧ Hid (Below W1.heap.size W1 wr ∧ RowAt wr gm [.int .u64 (hiN (atN aa (C.take k) 0) : Int), .int .u64 (loN (atN aa (C.take k) 0) : Int)] 25)) (fun i _ => N - (Go.RowKit.intOf i).toNat)
  case atStart => exact ⟨0, by omega, rfl, hbY, rm⟩
  case round =>
    obtain ⟨k, hk, rfl, HI⟩ := hrel
    clear rm hbY
    by_cases hlt : k < N
    · have hkz : k < C.length := by rw [← HN.out]; exact hlt
      have hbl := HI.out.1
      have rm := HI.out.2
      obtain ⟨g2, i2, e2, hgl, b0, b1⟩ := HasAds.cell (hC.keep hbl) k hkz
      injection e2 with e2
      injection e2 with e3 e4
      subst e3 e4
      have hki : (k : Int) < (N : Int) := by omega
      have fk := HF.out C[k] (List.getElem_mem hkz)
      have HS : Hid (atN aa (C.take (k + 1)) 0 = if C[k] ≤ aa then C[k] else atN aa (C.take k) 0) := by
        show _ = _
        rw [List.take_succ_eq_append_getElem hkz, atN_snoc]
      have cm2 := fun W => Hcm.out C[k] aa W fk ha.out
      have HCM : Hid (cmpN C[k] aa ≤ 0 ↔ C[k] ≤ aa) := by
        show _ ↔ _
        unfold cmpN
        split
        · exact ⟨fun _ => by omega, fun _ => by omega⟩
        · split
          · exact ⟨fun _ => by omega, fun _ => by omega⟩
          · exact ⟨fun _ => by omega, fun _ => by omega⟩
      generalize cmpN C[k] aa = cz at cm2 HCM
      have HPR : Hid (∀ (j : Nat) (hj : j < C.length), k = j + 1 → ∀ W, Calls Try.prog 27 #[.agg #[.int .u64 (hiN C[j] : Int), .int .u64 (loN C[j] : Int)], .agg #[.int .u64 (hiN C[k] : Int), .int .u64 (loN C[k] : Int)]] W fun e w' => e = .returned (.int .i64 (-1)) ∧ Below W.heap.size W w') := fun j hj e W => by
        have h1 := Hcm.out C[j] C[k] W (HF.out _ (List.getElem_mem hj)) fk
        have h2 : C[j] < C[k] := List.pairwise_iff_getElem.1 HU.out j k hj hkz (by omega)
        have h3 : cmpN C[j] C[k] = -1 := by unfold cmpN; rw [if_pos h2]
        rw [h3] at h1
        exact h1
      obtain ⟨x, hx⟩ : ∃ x, x = C[k] := ⟨_, rfl⟩
      rw [← hx] at b0 b1 HS cm2 HPR HCM
      clear fk
      have HXX : Hid (x = C[k]) := hx
      clear hx
      obtain ⟨Y2, hY⟩ : ∃ Y2, Y2 = wr.alloc (.cells #[.int .u64 (hiN x : Int), .int .u64 (loN x : Int)] 25) := ⟨_, rfl⟩
      have hbY : Below wr.heap.size wr Y2 := by rw [hY]; exact below_new (Below.refl _ _) _
      have rY : RowAt Y2 wr.heap.size [.int .u64 (hiN x : Int), .int .u64 (loN x : Int)] 25 := by rw [hY]; exact RowAt.new _ _ _
      go_upto_region 13 with fail
      rw [← hY]
      clear hY b0 b1 hgl
      generalize wr.heap.size = gY at rY ⊢
      have hbn : Below W1.heap.size W1 Y2 := below2 hbl hbY
      replace rm := RowAt.below rm hbY
      have v0 : ∀ p : Bl Y2, p.W.cell? ⟨gY, 0, none⟩ = some (.int .u64 (hiN x : Int)) := fun p => (rY.below p.h).cell 0
      have v1 : ∀ p : Bl Y2, p.W.cell? ⟨gY, 1, none⟩ = some (.int .u64 (loN x : Int)) := fun p => (rY.below p.h).cell 1
      haveI := bl_ne Y2
      have key : ∀ (wq : World), Below Y2.heap.size Y2 wq → True := fun _ _ => trivial
      clear key
      by_cases hk0 : k = 0
      · have hz1 : decide ((0 : Int) < (k : Int)) = false := decide_eq_false (by omega)
        have hz2 : decide (0 < k) = false := decide_eq_false (by omega)
        clear hk0
        refine wp_region_bl (by kernel_rfl) (by kernel_rfl) ?_
        repeat (go_big_quiet_step (fail))
        refine wpQuiet_nil ?_
        intro wq hw'
        obtain ⟨⟨wy, hq⟩, hw2⟩ := hw'
        subst hw2
        clear v0 v1
        replace rY := RowAt.below rY hq
        replace rm := RowAt.below rm hq
        replace hbn := below2 hbn hq
        clear hq
        have ra2 := RowAt.below ra hbn
        obtain ⟨y0, y1, yf⟩ := cells2 rY
        obtain ⟨a0, a1, af⟩ := cells2 ra2
        go_wp2_with fail
        go_at_call 27; refine (cm2 _).mono ?_; rintro e w9 ⟨rfl, hb9⟩
        clear y0 y1 yf a0 a1 af ra2
        replace rY := RowAt.below rY hb9
        replace rm := RowAt.below rm hb9
        replace hbn := below2 hbn hb9
        clear hb9
        cases hcz : decide (cz ≤ 0)
        · have hno : ¬ x ≤ aa := fun h => by have := HCM.out.2 h; rw [decide_eq_false_iff_not] at hcz; exact hcz this
          have HG : Hid (RowAt w9 gm [.int .u64 (hiN (atN aa (C.take (k + 1)) 0) : Int), .int .u64 (loN (atN aa (C.take (k + 1)) 0) : Int)] 25) := by
            show RowAt _ _ _ _
            rw [HS.out, if_neg hno]; exact rm
          clear HCM HS hno rm
          go_wp2_with fail
          go_roundw
          case rel => exact ⟨k + 1, by omega, by go_num, hbn, HG.out⟩
          case measure => simp [Go.RowKit.intOf]; omega
        · have hyes : x ≤ aa := HCM.out.1 (of_decide_eq_true hcz)
          obtain ⟨Y3, hY3⟩ : ∃ Y3, Y3 = (w9.setCell ⟨gm, 0, none⟩ (.int .u64 (hiN x : Int))).setCell ⟨gm, 1, none⟩ (.int .u64 (loN x : Int)) := ⟨_, rfl⟩
          have HG : Hid (Below W1.heap.size W1 Y3 ∧ RowAt Y3 gm [.int .u64 (hiN (atN aa (C.take (k + 1)) 0) : Int), .int .u64 (loN (atN aa (C.take (k + 1)) 0) : Int)] 25) := by
            show _ ∧ _
            rw [HS.out, if_pos hyes, hY3]
            exact ⟨bset (bset hbn (by rw [HGM.out]; exact Nat.le_refl _)) (by rw [HGM.out]; exact Nat.le_refl _), (rm.set1 0 _).set1 1 _⟩
          obtain ⟨y0, y1, yf⟩ := cells2 rY
          obtain ⟨m0, m1, mf⟩ := cells2 rm
          clear HCM HS hyes
          go_wp2_with fail
          rw [← hY3]
          clear hY3
          go_roundw
          case rel => exact ⟨k + 1, by omega, by go_num, HG⟩
          case measure => simp [Go.RowKit.intOf]; omega
      · obtain ⟨j, hj⟩ : ∃ j, k = j + 1 := ⟨k - 1, by omega⟩
        have hj2 : j < C.length := by omega
        obtain ⟨g2, i2, e2, hg2, b0, b1⟩ := HasAds.cell (hC.keep hbn) j hj2
        injection e2 with e2
        injection e2 with e3 e4
        subst e3 e4
        have cm1 := HPR.out j hj2 hj
        generalize (hiN C[j] : Int) = t0 at cm1 b0
        generalize (loN C[j] : Int) = t1 at cm1 b1
        have u0 : ∀ p : Bl Y2, p.W.cell? ⟨g1, i1 + j * 2, none⟩ = some (.int .u64 t0) := fun p => (p.h.cell (p := ⟨g1, i1 + j * 2, none⟩) hg2).trans b0
        have u1 : ∀ p : Bl Y2, p.W.cell? ⟨g1, i1 + j * 2 + 1, none⟩ = some (.int .u64 t1) := fun p => (p.h.cell (p := ⟨g1, i1 + j * 2 + 1, none⟩) hg2).trans b1
        clear b0 b1 hg2
        have e1 : (k : Int) - 1 = (j : Int) := by omega
        have e2 : IntKind.i64.wrap (j : Int) = (j : Int) := by rw [IntKind.wrap_i64]; omega
        have hkp : decide ((0 : Int) < (k : Int)) = true := decide_eq_true (by omega)
        have hkp' : decide (0 < k) = true := decide_eq_true (by omega)
        have hjn : (j : Int) < (N : Int) := by omega
        clear hj hk0
        refine wp_region_bl (by kernel_rfl) (by kernel_rfl) ?_
        repeat (go_big_quiet_step (first | (go_at_call 27; with_reducible exact bl_call (cm1 _))))
        refine wpQuiet_nil ?_
        intro wq hw'
        obtain ⟨⟨wy, hq⟩, hw2⟩ := hw'
        subst hw2
        clear v0 v1 u0 u1 cm1 e1 e2
        replace rY := RowAt.below rY hq
        replace rm := RowAt.below rm hq
        replace hbn := below2 hbn hq
        clear hq
        have ra2 := RowAt.below ra hbn
        obtain ⟨y0, y1, yf⟩ := cells2 rY
        obtain ⟨a0, a1, af⟩ := cells2 ra2
        go_wp2_with fail
        go_at_call 27; refine (cm2 _).mono ?_; rintro e w9 ⟨rfl, hb9⟩
        clear y0 y1 yf a0 a1 af ra2
        replace rY := RowAt.below rY hb9
        replace rm := RowAt.below rm hb9
        replace hbn := below2 hbn hb9
        clear hb9
        cases hcz : decide (cz ≤ 0)
        · have hno : ¬ x ≤ aa := fun h => by have := HCM.out.2 h; rw [decide_eq_false_iff_not] at hcz; exact hcz this
          have HG : Hid (RowAt w9 gm [.int .u64 (hiN (atN aa (C.take (k + 1)) 0) : Int), .int .u64 (loN (atN aa (C.take (k + 1)) 0) : Int)] 25) := by
            show RowAt _ _ _ _
            rw [HS.out, if_neg hno]; exact rm
          clear HCM HS hno rm
          go_wp2_with fail
          go_roundw
          case rel => exact ⟨k + 1, by omega, by go_num, hbn, HG.out⟩
          case measure => simp [Go.RowKit.intOf]; omega
        · have hyes : x ≤ aa := HCM.out.1 (of_decide_eq_true hcz)
          obtain ⟨Y3, hY3⟩ : ∃ Y3, Y3 = (w9.setCell ⟨gm, 0, none⟩ (.int .u64 (hiN x : Int))).setCell ⟨gm, 1, none⟩ (.int .u64 (loN x : Int)) := ⟨_, rfl⟩
          have HG : Hid (Below W1.heap.size W1 Y3 ∧ RowAt Y3 gm [.int .u64 (hiN (atN aa (C.take (k + 1)) 0) : Int), .int .u64 (loN (atN aa (C.take (k + 1)) 0) : Int)] 25) := by
            show _ ∧ _
            rw [HS.out, if_pos hyes, hY3]
            exact ⟨bset (bset hbn (by rw [HGM.out]; exact Nat.le_refl _)) (by rw [HGM.out]; exact Nat.le_refl _), (rm.set1 0 _).set1 1 _⟩
          obtain ⟨y0, y1, yf⟩ := cells2 rY
          obtain ⟨m0, m1, mf⟩ := cells2 rm
          clear HCM HS hyes
          go_wp2_with fail
          rw [← hY3]
          clear hY3
          go_roundw
          case rel => exact ⟨k + 1, by omega, by go_num, HG⟩
          case measure => simp [Go.RowKit.intOf]; omega
    · have hkn2 : k = N := by omega
      subst hkn2
      have hkd : decide ((k : Int) < (k : Int)) = false := decide_eq_false (by omega)
      have hbl := HI.out.1
      have rm := HI.out.2
      have hz : atN aa (C.take k) 0 = z := by rw [HN.out, List.take_length]; exact HZ.out
      rw [hz] at rm
      replace ra := RowAt.below ra hbl
      replace h0 := h0.keep hbl
      replace hB := below2 hB hbl
      clear HI hbl hz HZ hC Hcm
      obtain ⟨m0, m1, mf⟩ := cells2 rm
      go_wp2_with fail
      clear m0 m1 mf
      go_at_call 19; refine (c3 _ _ h0).mono ?_; rintro e w31 ⟨rfl, hb⟩
      replace ra := RowAt.below ra hb
      replace rm := RowAt.below rm hb
      replace h0 := h0.keep hb
      replace hB := below2 hB hb
      clear hb
      obtain ⟨Y32, hY⟩ : ∃ Y, Y = (w31.alloc (.cells #[.bool xA, .int .u64 xB, .int .u64 xC, .int .i64 xD, .int .u8 xE, .int .i64 xF] 32)) := ⟨_, rfl⟩
      have hbY : Below w31.heap.size w31 Y32 := by rw [hY]; exact below_new (Below.refl _ _) _
      have hle : w.heap.size ≤ w31.heap.size := hB.size
      obtain ⟨gx, hgx⟩ : ∃ g, g = w31.heap.size := ⟨_, rfl⟩
      have rx : RowAt Y32 gx [.bool xA, .int .u64 xB, .int .u64 xC, .int .i64 xD, .int .u8 xE, .int .i64 xF] 32 := by
        have h := RowAt.new w31 [.bool xA, .int .u64 xB, .int .u64 xC, .int .i64 xD, .int .u8 xE, .int .i64 xF] 32
        rw [hgx, hY]; exact h
      have lex : w.heap.size ≤ gx := by omega
      have neax : ga ≠ gx := by have := RowAt.lt ra; omega
      have nemx : gm ≠ gx := by have := RowAt.lt rm; omega
      replace ra := RowAt.below ra hbY
      replace rm := RowAt.below rm hbY
      replace h0 := h0.keep hbY
      replace hB := below2 hB hbY
      go_upto_region 19 with fail
      rw [← hY, ← hgx]
      clear hY hbY hle hgx
      obtain ⟨a0, a1, af⟩ := cells2 ra
      go_wp2_with fail
      clear a0 a1 af
      go_at_call 19; refine (c4 _ _ h0).mono ?_; rintro e w33 ⟨rfl, hb⟩
      replace ra := RowAt.below ra hb
      replace rm := RowAt.below rm hb
      replace rx := RowAt.below rx hb
      replace h0 := h0.keep hb
      replace hB := below2 hB hb
      clear hb
      obtain ⟨Y34, hY⟩ : ∃ Y, Y = (w33.alloc (.cells #[.bool xA, .int .u64 xB, .int .u64 xC, .int .i64 xD, .int .u8 xE, .int .i64 xF] 32)) := ⟨_, rfl⟩
      have hbY : Below w33.heap.size w33 Y34 := by rw [hY]; exact below_new (Below.refl _ _) _
      have hle : w.heap.size ≤ w33.heap.size := hB.size
      obtain ⟨gy, hgy⟩ : ∃ g, g = w33.heap.size := ⟨_, rfl⟩
      have ry : RowAt Y34 gy [.bool xA, .int .u64 xB, .int .u64 xC, .int .i64 xD, .int .u8 xE, .int .i64 xF] 32 := by
        have h := RowAt.new w33 [.bool xA, .int .u64 xB, .int .u64 xC, .int .i64 xD, .int .u8 xE, .int .i64 xF] 32
        rw [hgy, hY]; exact h
      have ley : w.heap.size ≤ gy := by omega
      have neay : ga ≠ gy := by have := RowAt.lt ra; omega
      have nemy : gm ≠ gy := by have := RowAt.lt rm; omega
      have nexy : gx ≠ gy := by have := RowAt.lt rx; omega
      replace ra := RowAt.below ra hbY
      replace rm := RowAt.below rm hbY
      replace rx := RowAt.below rx hbY
      replace h0 := h0.keep hbY
      replace hB := below2 hB hbY
      go_upto_region 20 with fail
      rw [← hY, ← hgy]
      clear hY hbY hle hgy
      have x0 := RowAt.cell rx 0
      have x1 := RowAt.cell rx 1
      have x2 := RowAt.cell rx 2
      have x3 := RowAt.cell rx 3
      have x4 := RowAt.cell rx 4
      have x5 := RowAt.cell rx 5
      have xf := RowAt.frozen rx
      simp only [List.getElem?_cons_succ, List.getElem?_cons_zero] at x0 x1 x2 x3 x4 x5
      have y0 := RowAt.cell ry 0
      have y1 := RowAt.cell ry 1
      have y2 := RowAt.cell ry 2
      have y3 := RowAt.cell ry 3
      have y4 := RowAt.cell ry 4
      have y5 := RowAt.cell ry 5
      have yf := RowAt.frozen ry
      simp only [List.getElem?_cons_succ, List.getElem?_cons_zero] at y0 y1 y2 y3 y4 y5
      go_wp2_with fail
      go_ret
      exact ⟨rfl, hB⟩
theorem walk (v : Value) (l : List Rt) (six : Bool) (a : Nat) (w : World) (h0 : HasRts w v l) (hf : ∀ x ∈ l, FitR x) (ha : a < 2 ^ 128) :
    Calls Try.prog 7 #[v, .bool six, adV a] w fun e w' => e = .returned (.bool true) ∧ Below w.heap.size w w' := by
  obtain ⟨o, t, rfl, _⟩ := Lk.HasRow.slice h0
  have c1 : ∀ W v, HasRts W v l → Calls Try.prog 21 #[v, .bool six] W fun e w' => ∃ o1 m1, e = .returned (.tuple #[.slice o1 (cutsT l six).1.length m1, .int .i64 (cutsT l six).2]) ∧ HasAds w' (.slice o1 (cutsT l six).1.length m1) (cutsT l six).1 ∧ Below W.heap.size W w' := fun W v h => (Ct.cuts_any l v six W h hf).mono (fun e w' ⟨o1, n1, m1, e1, e2, e3⟩ => by
    obtain ⟨o2, m2, e4, _⟩ := Lk.HasRow.slice e2
    rw [e4] at e1 e2
    exact ⟨o2, m2, e1, e2, e3⟩)
  by_cases h2 : (cutsT l six).2 = 0
  · have c2 := fun W => Go.Proofs.Ytjgieaijdkmadaa.Addr.right_any six a W ha
    rw [h2] at c1
    cases hr : rightB six a with
    | false =>
      rw [hr] at c2
      exact walk_off six a _ _ l o _ t w h0 c1 c2
    | true =>
      rw [hr] at c2
      obtain ⟨tt, ht, hu⟩ := cuts_head h2
      have hlt : ∀ x ∈ (cutsT l six).1, x < 2 ^ 128 := fun x hx => by
        rw [(cuts_ok h2).2, Ct.mem_sortN] at hx
        exact Ct.partsC_lt hf six x hx
      have hz : atN a (cutsT l six).1 0 < 2 ^ 128 := by
        obtain ⟨s1, _, _⟩ := atN_spec a (cutsT l six).1 0 (by rw [ht]; exact hu) (fun x _ => Nat.zero_le _) (Nat.zero_le _)
        omega
      have hNN : (((Ct.sortN (0 :: Ct.partsC l six)).length : Nat) : Int) ≤ 9223372036854775807 := by
        have h1 := cuts_len l six
        have h2 := ((okT_iff _).1 (cuts_ok h2).1).1
        omega
      have c3 := fun W v h => longest_any l v six (atN a (cutsT l six).1 0) W h hf hz
      rw [cut_same h2 hr] at c3
      exact walk_ok six a (longT l six a).1.pf.six (hiN (longT l six a).1.pf.n : Int) (loN (longT l six a).1.pf.n : Int) (longT l six a).1.pf.len ((longT l six a).1.act.k : Int) (longT l six a).1.act.i (longT l six a).2 _ _ l o _ t w h0 c1 c2 (by rw [(cuts_ok h2).2]; exact hNN) rfl ⟨tt, ht⟩ (by rw [ht]; exact hu) hlt ha _ rfl c3 (fun W v h => longest_any l v six a W h hf ha) (fun W => by rw [rt_eql, (eqR_iff _ _).2 rfl])
  · rw [cuts_not h2] at c1
    exact walk_bad six a l o _ t w h0 c1

set_option maxRecDepth 100000 in
theorem lifted (os : Os) (started : os.Started) (H : Type) (enc : TypeId × Value → H) :
    ReturnsInHanded {} Try.checked os 7 .any (Rows.trieCutsSpec.pre6 enc Try.prog Try.f7 Rows.trieCutsRow.domain false) (Rows.trieCutsSpec.post enc Try.prog Try.f7 false true false false) := by
  refine returnsInHanded_of_change_sized (C := Try.checked) own started (by kernel_rfl) Try.func7
    (ChangeSpec.witness6 (enc := enc) (C := Try.checked) false ⟨#[], #[.slice none 0 0, .bool false, .agg #[.int .u64 0, .int .u64 0]], []⟩ 8 (by kernel_rfl) (by kernel_rfl) (by kernel_rfl) (by kernel_rfl)) ?_
  intro W base args ds gs before hval0 hW _ hsz0 _
  have hsz : (DataW.weightsEach Try.prog (Try.f7.params.toList ++ Rows.trieCutsSpec.plain.varTypes Try.prog) (ds ++ gs)).all (· ≤ reachBytes) = true := hsz0
  clear hsz0
  have hval : ∀ (j : Nat) t v, Try.f7.params[j]? = some t → args[j]? = some v → Value.okWide Try.prog W .any base t v := hval0
  have hW' := hW
  obtain ⟨p, q, hA0, hV, rfl, hfz, hnd⟩ := hW
  have hA : DataW.TrodAll enc Try.prog W 0 (fun _ => true) true Try.f7.params.toList args.toList ds p := hA0
  rw [Try.params7] at hA hval hsz
  obtain ⟨v0, vs0, d0, ds0, p0, q0, hargs, rfl, rfl, h0, r0⟩ := trodAll_cons hA
  obtain ⟨v1, vs1, d1, ds1, p1, q1, rfl, rfl, rfl, h1, r1⟩ := trodAll_cons r0
  obtain ⟨v2, vs2, d2, ds2, p2, q2, rfl, rfl, rfl, h2, r2⟩ := trodAll_cons r1
  obtain ⟨rfl, rfl, rfl⟩ := trodAll_nil r2
  obtain rfl : args = #[v0, v1, v2] := by cases args; simp_all
  obtain ⟨rfl, rfl⟩ := trodVars_none hV
  obtain ⟨a0, len0, cap0, rfl⟩ := okWide_slice Try.underlying22 (hval 0 22 v0 rfl rfl)
  have k0 := h0
  have lt0 : ∀ x ∈ p0, x.block < W.heap.size := by obtain ⟨m, hm⟩ := k0; exact DataW.trod_lt m _ _ _ hm
  obtain ⟨fuel0, hf0⟩ := h0
  obtain ⟨z0, b0, f0⟩ := Tr.open_routes hf0
  obtain ⟨a1, rfl, rfl, rfl⟩ := open_bool Try.underlying4 (hval 1 4 v1 rfl rfl) h1
  have k2 := h2
  have lt2 : ∀ x ∈ p2, x.block < W.heap.size := by obtain ⟨m, hm⟩ := k2; exact DataW.trod_lt m _ _ _ hm
  obtain ⟨n2, rfl, b2⟩ := Addr.open_addr (hval 2 25 v2 rfl rfl) h2
  clear hA0 hval0
  refine (walk (.slice a0 len0 cap0) z0 a1 n2 W b0 f0 b2).mono fun e W' ⟨he, bel⟩ => ?_
  subst he
  exact ⟨_, rfl, _, _, _, [], _, [], hW', trodAll_mk1 (shut_bool Try.underlying4 _), (trodAll_cons_mk (Below.trod laidOut (by kernel_rfl) (of_decide_eq_true (by kernel_rfl)) k0 bel lt0) (trodAll_cons_mk (shut_bool Try.underlying4 a1) (trodAll_cons_mk (Below.trod laidOut (by kernel_rfl) (of_decide_eq_true (by kernel_rfl)) k2 bel lt2) trodAll_mk0))), rfl, bel.frame _, fun h => by cases h⟩

theorem over : Rows.trieCutsRow.holds Try.pinned (OpenSpec.ofChange Rows.trieCutsSpec) :=
  OpenClaim.holds_of_wide 7 Try.f7 rfl rfl rfl rfl rfl rfl rfl ⟨rfl, rfl, rfl, rfl, rfl⟩ rfl rfl rfl rfl rfl (by kernel_rfl) Try.func7 (by kernel_rfl)
    (of_decide_eq_true (by kernel_rfl)) (by unfold Func.isWrapper; first | (rw [if_pos (by decide +kernel)]; kernel_rfl) | (rw [if_neg (by decide +kernel)]; exact ⟨rfl, rfl⟩))
    (fun os started H enc _ => lifted os started H enc)
end trieCuts
theorem tcuts_holds : Rows.TrieCutsSaid := trieCuts.over
#print axioms tcuts_holds
end Go.Proofs.Ytjgieaijdkmadaa
