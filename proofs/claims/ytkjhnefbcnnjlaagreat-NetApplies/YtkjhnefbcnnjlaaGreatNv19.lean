/- What follows of routers to which events happen, plain. -/
import Derived.Test.YtkjhnefbcnnjlaaGreatNv18
import Derived.Test.YtkjhnefbcnnjlaaGreatNv04
import Derived.Test.YtkjhnefbcnnjlaaGreatNv06
import Derived.Test.YtkjhnefbcnnjlaaGreatNv12
import Derived.Test.YtkjhnefbcnnjlaaGreatNv11
import Derived.Test.YtkjhnefbcnnjlaaGreatNv07
import Derived.Test.YtkjhnefbcnnjlaaGreatNv13
set_option linter.unusedVariables false
namespace Go.Proofs.YtkjhnefbcnnjlaaGreat.Ord
open Go.RowKit Go.Shelf
open Go.Proofs.YtkjhnefbcnnjlaaGreat.Msg (Ev evV FitE cells12')
open Go.Proofs.YtkjhnefbcnnjlaaGreat.Addr (RowAt below2 below_new RowAt.lt RowAt.below RowAt.new RowAt.alloc)
attribute [-go_sem] Builtin.append_

set_option maxHeartbeats 8000000 in
set_option maxRecDepth 20000 in
theorem next_walk (v : Value) (c0 c1 c2 c3 c5 c6 c7 c8 c9 c10 c11 : Int) (cs : Bool) (h : Int) (w : World) (E1 E2 R : Int) (L : List St) (P : World → Value → Prop) (Q : World → Value → Prop)
    (k1 : ∀ W : World, Below w.heap.size w W → Calls Tryz.prog 54 #[v, .agg #[.int .u8 c0, .int .i64 c1, .int .u64 c2, .int .i64 c3, .bool cs, .int .u64 c5, .int .u64 c6, .int .i64 c7, .int .u8 c8, .int .i64 c9, .int .i64 c10, .int .i64 c11], .int .i64 h] W fun e w' => e = .returned (.int .i64 E1) ∧ Below W.heap.size W w')
    (k2 : E1 = 0 → ∀ W : World, Below w.heap.size w W → Calls Tryz.prog 55 #[v, .agg #[.int .u8 c0, .int .i64 c1, .int .u64 c2, .int .i64 c3, .bool cs, .int .u64 c5, .int .u64 c6, .int .i64 c7, .int .u8 c8, .int .i64 c9, .int .i64 c10, .int .i64 c11], .int .i64 h] W fun e w' => e = .returned (.int .i64 E2) ∧ Below W.heap.size W w')
    (k3 : E1 = 0 → E2 ≠ 0 → ∀ W : World, Below w.heap.size w W → Calls Tryz.prog 28 #[v] W fun e w' => ∃ u, e = .returned u ∧ P w' u ∧ Below W.heap.size W w')
    (k4 : E1 = 0 → E2 = 0 → ∀ W : World, Below w.heap.size w W → Calls Tryz.prog 56 #[v, .agg #[.int .i64 c1, .int .u64 c2, .int .i64 c3, .bool (c0 != 2)]] W fun e w' => ∃ u, e = .returned u ∧ Q w' u ∧ Below W.heap.size W w')
    (G : World → Value → Prop) (H1 : E1 ≠ 0 → Hid (R = E1 ∧ ∀ W : World, G W (.slice none 0 0))) (H2 : E1 = 0 → E2 ≠ 0 → Hid (R = E2 ∧ ∀ (W : World) (u : Value), P W u → G W u)) (H3 : E1 = 0 → E2 = 0 → Hid (R = 0 ∧ ∀ (W : World) (u : Value), Q W u → G W u)) :
    Calls Tryz.prog 31 #[v, .agg #[.int .u8 c0, .int .i64 c1, .int .u64 c2, .int .i64 c3, .bool cs, .int .u64 c5, .int .u64 c6, .int .i64 c7, .int .u8 c8, .int .i64 c9, .int .i64 c10, .int .i64 c11], .int .i64 h] w fun e w' => ∃ u, e = .returned (.tuple #[u, .int .i64 R]) ∧ G w' u ∧ Below w.heap.size w w' := by
  obtain ⟨X, hX⟩ : ∃ X, X = w.alloc (.cells #[.int .u8 c0, .int .i64 c1, .int .u64 c2, .int .i64 c3, .bool cs, .int .u64 c5, .int .u64 c6, .int .i64 c7, .int .u8 c8, .int .i64 c9, .int .i64 c10, .int .i64 c11] 38) := ⟨_, rfl⟩
  have hB : Below w.heap.size w X := by rw [hX]; exact below_new (Below.refl _ _) _
  have r0 : RowAt X w.heap.size [.int .u8 c0, .int .i64 c1, .int .u64 c2, .int .i64 c3, .bool cs, .int .u64 c5, .int .u64 c6, .int .i64 c7, .int .u8 c8, .int .i64 c9, .int .i64 c10, .int .i64 c11] 38 := by rw [hX]; exact RowAt.new _ _ _
  go_enter Tryz.func31, Tryz.ntmps31
  go_upto_region 1 with fail
  rw [← hX]
  clear hX
  obtain ⟨⟨y0, y1, y2, y3, y4, y5⟩, ⟨y6, y7, y8, y9, y10, y11⟩, yf, hly⟩ := cells12' r0
  by_cases h1 : E1 = 0
  · have k2' := k2 h1
    by_cases h2 : E2 = 0
    · have k4' := k4 h1 h2
      have HV := H3 h1 h2
      have HR : Hid (R = 0) := HV.out.1
      subst h1 h2
      clear H1 H2 H3 k2 k3 k4
      go_wp2_with fail
      go_at_call 54; refine (k1 _ hB).mono ?_; rintro e w1 ⟨rfl, hb⟩
      replace hB := below2 hB hb
      replace r0 := RowAt.below r0 hb
      clear hb k1 y0 y1 y2 y3 y4 y5 y6 y7 y8 y9 y10 y11 yf hly
      obtain ⟨⟨y0, y1, y2, y3, y4, y5⟩, ⟨y6, y7, y8, y9, y10, y11⟩, yf, hly⟩ := cells12' r0
      go_wp2_with fail
      go_at_call 55; refine (k2' _ hB).mono ?_; rintro e w2 ⟨rfl, hb⟩
      replace hB := below2 hB hb
      replace r0 := RowAt.below r0 hb
      clear hb k2' y0 y1 y2 y3 y4 y5 y6 y7 y8 y9 y10 y11 yf hly
      obtain ⟨⟨y0, y1, y2, y3, y4, y5⟩, ⟨y6, y7, y8, y9, y10, y11⟩, yf, hly⟩ := cells12' r0
      go_wp2_with fail
      go_at_call 56; refine (k4' _ hB).mono ?_; rintro e w3 ⟨u, rfl, hQ, hb⟩
      have hG := HV.out.2 _ _ hQ
      replace hB := below2 hB hb
      clear hb y0 y1 y2 y3 y4 y5 y6 y7 y8 y9 y10 y11 yf hly hQ HV
      have HG : Hid (G w3 u) := hG
      clear hG
      go_wp2_with fail
      go_ret2
      exact ⟨u, by rw [HR.out]; rfl, HG.out, hB⟩
    · have k3' := k3 h1 h2
      have HV := H2 h1 h2
      have HR : Hid (R = E2) := HV.out.1
      have q1 : (E2 == 0) = false := beq_eq_false_iff_ne.2 h2
      have q2 : (E2 != 0) = true := bne_iff_ne.2 h2
      subst h1
      clear H1 H2 H3 k2 k3 k4 h2
      go_wp2_with fail
      go_at_call 54; refine (k1 _ hB).mono ?_; rintro e w1 ⟨rfl, hb⟩
      replace hB := below2 hB hb
      replace r0 := RowAt.below r0 hb
      clear hb k1 y0 y1 y2 y3 y4 y5 y6 y7 y8 y9 y10 y11 yf hly
      obtain ⟨⟨y0, y1, y2, y3, y4, y5⟩, ⟨y6, y7, y8, y9, y10, y11⟩, yf, hly⟩ := cells12' r0
      go_wp2_with fail
      go_at_call 55; refine (k2' _ hB).mono ?_; rintro e w2 ⟨rfl, hb⟩
      replace hB := below2 hB hb
      replace r0 := RowAt.below r0 hb
      clear hb k2' y0 y1 y2 y3 y4 y5 y6 y7 y8 y9 y10 y11 yf hly
      obtain ⟨⟨y0, y1, y2, y3, y4, y5⟩, ⟨y6, y7, y8, y9, y10, y11⟩, yf, hly⟩ := cells12' r0
      go_wp2_with fail
      go_at_call 28; refine (k3' _ hB).mono ?_; rintro e w3 ⟨u, rfl, hQ, hb⟩
      have hG := HV.out.2 _ _ hQ
      replace hB := below2 hB hb
      clear hb y0 y1 y2 y3 y4 y5 y6 y7 y8 y9 y10 y11 yf hly hQ HV
      have HG : Hid (G w3 u) := hG
      clear hG
      go_wp2_with fail
      go_ret2
      exact ⟨u, by rw [HR.out]; rfl, HG.out, hB⟩
  · have HV := H1 h1
    have HR : Hid (R = E1) := HV.out.1
    have q1 : (E1 == 0) = false := beq_eq_false_iff_ne.2 h1
    have q2 : (E1 != 0) = true := bne_iff_ne.2 h1
    clear H1 H2 H3 k2 k3 k4 h1
    go_wp2_with fail
    go_at_call 54; refine (k1 _ hB).mono ?_; rintro e w1 ⟨rfl, hb⟩
    replace hB := below2 hB hb
    replace r0 := RowAt.below r0 hb
    clear hb k1 y0 y1 y2 y3 y4 y5 y6 y7 y8 y9 y10 y11 yf hly
    obtain ⟨⟨y0, y1, y2, y3, y4, y5⟩, ⟨y6, y7, y8, y9, y10, y11⟩, yf, hly⟩ := cells12' r0
    have HG : Hid (G w1 (.slice none 0 0)) := HV.out.2 _
    clear HV y0 y1 y2 y3 y4 y5 y6 y7 y8 y9 y10 y11 yf hly
    go_wp2_with fail
    go_ret2
    exact ⟨.slice none 0 0, by rw [HR.out]; rfl, HG.out, hB⟩
theorem newIn_own {w W : World} {m e size k : Nat} {v : Value} {xs : List Value} (h : W.ownsRow m e size v k xs) (hm : w.heap.size ≤ m) : NewIn w v := by
  intro a n c e
  subst e
  have := (h.lt a.block rfl).1
  omega
theorem newIn_nil (w : World) : NewIn w (.slice none 0 0) := fun a n c e => by injection e with e; cases e
theorem next_any (l : List St) (v : Value) (e : Ev) (h : Int) (w : World) (hl : HasSts w v l) (hf : FitE e) :
    Calls Tryz.prog 31 #[v, evV e, .int .i64 h] w fun r w' => ∃ u, r = .returned (.tuple #[u, .int .i64 (nextL l e h).2]) ∧ (HasSts w' u (nextL l e h).1 ∧ NewIn w u) ∧ Below w.heap.size w w' := by
  have hkind : ((e.kind : Int) != 2) = decide (e.kind ≠ 2) := by
    rw [Bool.eq_iff_iff, bne_iff_ne, decide_eq_true_eq]; omega
  refine next_walk v _ _ _ _ _ _ _ _ _ _ _ _ h w (askL l e h) (misL l e h) _ l (fun W u => HasSts W u l ∧ NewIn w u) (fun W u => HasSts W u (seatedL l ⟨e.router, e.seq, e.time, decide (e.kind ≠ 2)⟩) ∧ NewIn w u) (fun W hb => ask_any l v e h W (hl.keep hb) hf) (fun h1 W hb => mis_any l v e h W (hl.keep hb) (ask_ok h1).1) ?_ ?_ (fun W u => HasSts W u (nextL l e h).1 ∧ NewIn w u) ?_ ?_ ?_
  · intro h1 h2 W hb
    have := (okL_all (ask_ok h1).1).1
    refine (clone_any l v W (hl.keep hb) (by omega)).mono ?_
    rintro e w' ⟨u, rfl, ho, hb'⟩
    exact ⟨u, rfl, ⟨hasRow_own ho, newIn_own ho hb.size⟩, hb'⟩
  · intro h1 h2 W hb
    have := (okL_all (ask_ok h1).1).1
    rw [hkind]
    refine (seated_any l v ⟨e.router, e.seq, e.time, decide (e.kind ≠ 2)⟩ W (hl.keep hb) (by omega)).mono ?_
    rintro e w' ⟨u, rfl, ⟨B, hBB, ho⟩, hb'⟩
    exact ⟨u, rfl, ⟨hasRow_own ho, newIn_own ho (Nat.le_trans hb.size hBB)⟩, hb'⟩
  · intro h1
    show _ ∧ _
    unfold nextL
    rw [if_neg h1]
    exact ⟨rfl, fun W => ⟨hasRow_nil W 4, newIn_nil w⟩⟩
  · intro h1 h2
    show _ ∧ _
    unfold nextL
    rw [if_pos h1, if_neg h2]
    exact ⟨rfl, fun W u hu => hu⟩
  · intro h1 h2
    show _ ∧ _
    unfold nextL
    rw [if_pos h1, if_pos h2]
    exact ⟨rfl, fun W u hu => hu⟩
end Go.Proofs.YtkjhnefbcnnjlaaGreat.Ord
namespace Go.Proofs.YtkjhnefbcnnjlaaGreat.Tr
open Go.Proofs.YtkjhnefbcnnjlaaGreat.Addr (Pf okP wideN rightB hasB coversB kP firstN)
theorem first_iff {k n a : Nat} (hn : n % 2 ^ k = 0) : firstN k a = n ↔ n ≤ a ∧ a < n + 2 ^ k := by
  unfold firstN
  have hp : 0 < 2 ^ k := Nat.pow_pos (by decide)
  have h1 := Nat.mod_lt a hp
  have h2 := Nat.div_add_mod a (2 ^ k)
  have h3 := Nat.div_add_mod n (2 ^ k)
  rw [hn, Nat.add_zero] at h3
  constructor
  · intro h; omega
  · rintro ⟨h4, h5⟩
    have h6 : a / 2 ^ k = n / 2 ^ k := by
      refine Nat.div_eq_of_lt_le ?_ ?_
      · rw [Nat.mul_comm, h3]; exact h4
      · rw [Nat.add_mul, Nat.one_mul, Nat.mul_comm, h3]; exact h5
    rw [h6, h3] at h2
    omega
theorem ok_parts {p : Pf} (h : okP p = true) : 0 ≤ p.len ∧ p.len ≤ (wideN p.six : Int) ∧ p.n < 2 ^ wideN p.six ∧ p.n % 2 ^ kP p = 0 := by
  unfold okP rightB at h
  simp only [Bool.and_eq_true, decide_eq_true_eq] at h
  exact ⟨h.1.1, h.1.2, h.2.1, h.2.2⟩
theorem has_iff {p : Pf} (h : okP p = true) (six : Bool) (a : Nat) : hasB p six a = true ↔ p.six = six ∧ a < 2 ^ wideN six ∧ p.n ≤ a ∧ a < p.n + 2 ^ kP p := by
  unfold hasB rightB
  rw [h]
  simp only [Bool.true_and, Bool.and_eq_true, decide_eq_true_eq]
  rw [first_iff (ok_parts h).2.2.2]
theorem has_ok {p : Pf} {six : Bool} {a : Nat} (h : hasB p six a = true) : okP p = true := by
  unfold hasB at h
  simp only [Bool.and_eq_true] at h
  exact h.1
theorem covers_parts {p q : Pf} (h : coversB p q = true) : okP q = true ∧ p.len ≤ q.len ∧ hasB p q.six q.n = true := by
  unfold coversB at h
  simp only [Bool.and_eq_true, decide_eq_true_eq] at h
  exact ⟨h.1, h.2.1, h.2.2⟩
theorem kP_le {p q : Pf} (hs : p.six = q.six) (hl : p.len ≤ q.len) : kP q ≤ kP p := by
  unfold kP
  rw [hs]
  omega
theorem mul_of_mod {n k : Nat} (h : n % 2 ^ k = 0) : ∃ m, n = 2 ^ k * m := ⟨n / 2 ^ k, by have := Nat.div_add_mod n (2 ^ k); omega⟩
theorem mod_of_le {n j k : Nat} (hjk : j ≤ k) (h : n % 2 ^ k = 0) : n % 2 ^ j = 0 := by
  obtain ⟨m, rfl⟩ := mul_of_mod h
  obtain ⟨d, rfl⟩ : ∃ d, k = j + d := ⟨k - j, by omega⟩
  rw [Nat.pow_add, Nat.mul_assoc, Nat.mul_mod_right]
/-- two multiples, the one below the other, lie apart by the size -/
theorem mult_apart {a b k : Nat} (ha : a % 2 ^ k = 0) (hb : b % 2 ^ k = 0) (h : a < b) : a + 2 ^ k ≤ b := by
  obtain ⟨x, rfl⟩ := mul_of_mod ha
  obtain ⟨y, rfl⟩ := mul_of_mod hb
  have hxy : x < y := by
    rcases Nat.lt_or_ge x y with h1 | h1
    · exact h1
    · have := Nat.mul_le_mul_left (2 ^ k) h1; omega
  have := Nat.mul_le_mul_left (2 ^ k) (show x + 1 ≤ y from hxy)
  rw [Nat.mul_add, Nat.mul_one] at this
  exact this
theorem covers_has {p q : Pf} {six : Bool} {a : Nat} (h : coversB p q = true) (ha : hasB q six a = true) : hasB p six a = true := by
  obtain ⟨h1, h2, h3⟩ := covers_parts h
  have hp := has_ok h3
  obtain ⟨e1, e2, e3, e4⟩ := (has_iff hp _ _).1 h3
  obtain ⟨f1, f2, f3, f4⟩ := (has_iff h1 _ _).1 ha
  refine (has_iff hp _ _).2 ⟨e1.trans f1, f2, by omega, ?_⟩
  have hk := kP_le e1 h2
  have hm1 := (ok_parts h1).2.2.2
  have hm2 := mod_of_le hk (ok_parts hp).2.2.2
  have hm3 : (p.n + 2 ^ kP p) % 2 ^ kP q = 0 := by
    rw [Nat.add_mod, hm2, mod_of_le hk (Nat.mod_self _)]
    simp
  have := mult_apart hm1 hm3 e4
  omega
theorem covers_trans {p q r : Pf} (h1 : coversB p q = true) (h2 : coversB q r = true) : coversB p r = true := by
  obtain ⟨a1, a2, a3⟩ := covers_parts h1
  obtain ⟨b1, b2, b3⟩ := covers_parts h2
  unfold coversB
  rw [b1, covers_has h1 b3, decide_eq_true (show p.len ≤ r.len by omega)]
  rfl
theorem covers_six {p q : Pf} (h : coversB p q = true) : q.six = p.six := by
  obtain ⟨_, _, h3⟩ := covers_parts h
  exact ((has_iff (has_ok h3) _ _).1 h3).1.symm
/-- one that stands behind, and is not covered, begins behind the end -/
theorem apart_of {p q : Pf} (hp : okP p = true) (hq : okP q = true) (hl : ltP p q) (hc : coversB p q = false) (hs : q.six = p.six) : p.n + 2 ^ kP p ≤ q.n := by
  rcases Nat.lt_or_ge q.n (p.n + 2 ^ kP p) with h | h
  · exfalso
    unfold ltP at hl
    rcases hl with ⟨h1, h2⟩ | ⟨_, h3⟩
    · rw [hs, h1] at h2; cases h2
    · have hpq : p.n ≤ q.n := by omega
      have hh : hasB p q.six q.n = true := (has_iff hp _ _).2 ⟨hs.symm, by have := (ok_parts hq).2.2.1; exact this, hpq, h⟩
      have hlen : q.len < p.len := by
        rcases Int.lt_or_le q.len p.len with h5 | h5
        · exact h5
        · unfold coversB at hc
          rw [hq, hh, decide_eq_true h5] at hc
          cases hc
      have hk := kP_le (p := q) (q := p) hs (Int.le_of_lt hlen)
      have hm := mod_of_le hk (ok_parts hq).2.2.2
      have hne : p.n < q.n := by
        rcases h3 with h3 | h3
        · exact h3
        · omega
      have := mult_apart (ok_parts hp).2.2.2 hm hne
      omega
  · exact h
/-- rows of routes, each with those under it -/
abbrev Seg : Type := Rt × List Rt
def flat (s : List Seg) : List Rt := s.flatMap (fun x => x.1 :: x.2)
structure Good (s : List Seg) (six : Bool) : Prop where
  cov : ∀ x ∈ s, ∀ y ∈ x.2, coversB x.1.pf y.pf = true
  six : ∀ x ∈ s, x.1.pf.six = six
  ok : ∀ x ∈ s, okP x.1.pf = true
  up : s.Pairwise (fun x y => x.1.pf.n + 2 ^ kP x.1.pf ≤ y.1.pf.n)
theorem good_nil (six : Bool) : Good [] six := ⟨by simp, by simp, by simp, List.Pairwise.nil⟩
def hasR (six : Bool) (a : Nat) (r : Rt) : Bool := hasB r.pf six a
theorem filter_seg {x : Seg} {six : Bool} {a : Nat} (hc : ∀ y ∈ x.2, coversB x.1.pf y.pf = true) (h : hasB x.1.pf six a = false) : (x.1 :: x.2).filter (hasR six a) = [] := by
  rw [List.filter_eq_nil_iff]
  intro y hy
  rcases List.mem_cons.1 hy with rfl | hy
  · unfold hasR; rw [h]; simp
  · intro h2
    have := covers_has (hc y hy) (show hasB y.pf six a = true from h2)
    rw [h] at this
    cases this
theorem flat_none {s : List Seg} {six : Bool} {a : Nat} (hc : ∀ x ∈ s, ∀ y ∈ x.2, coversB x.1.pf y.pf = true) (h : ∀ x ∈ s, hasB x.1.pf six a = false) : (flat s).filter (hasR six a) = [] := by
  induction s with
  | nil => rfl
  | cons x s ih =>
    show ((x.1 :: x.2) ++ flat s).filter _ = _
    rw [List.filter_append, filter_seg (hc x List.mem_cons_self) (h x List.mem_cons_self), ih (fun y hy => hc y (List.mem_cons_of_mem _ hy)) (fun y hy => h y (List.mem_cons_of_mem _ hy))]
    rfl
/-- those of a row that do not begin behind an address are in front: k of them -/
def Cut (s : List Seg) (a k : Nat) : Prop := k ≤ s.length ∧ (∀ j (h : j < s.length), j < k → s[j].1.pf.n ≤ a) ∧ ∀ j (h : j < s.length), k ≤ j → a < s[j].1.pf.n
theorem over_none {s : List Seg} {six : Bool} {a k : Nat} (hg : Good s six) (hk : Cut s a k) (h : k = 0 ∨ ∀ h : k - 1 < s.length, hasB s[k - 1].1.pf six a = false) : (flat s).filter (hasR six a) = [] := by
  refine flat_none hg.cov (fun x hx => ?_)
  cases hb : hasB x.1.pf six a with
  | false => rfl
  | true =>
    exfalso
    obtain ⟨j, hj, rfl⟩ := List.getElem_of_mem hx
    obtain ⟨e1, e2, e3, e4⟩ := (has_iff (hg.ok _ hx) _ _).1 hb
    have hjk : j < k := by
      rcases Nat.lt_or_ge j k with h1 | h1
      · exact h1
      · have := hk.2.2 j hj h1; omega
    have hk1 : k - 1 < s.length := by have := hk.1; omega
    have hje : j = k - 1 := by
      rcases Nat.lt_or_ge j (k - 1) with h1 | h1
      · have h2 := List.pairwise_iff_getElem.1 hg.up j (k - 1) hj hk1 h1
        have h3 := hk.2.1 (k - 1) hk1 (by omega)
        omega
      · omega
    rcases h with h | h
    · omega
    · have h4 := h hk1
      subst hje
      rw [h4] at hb
      cases hb
theorem over_some {s : List Seg} {six : Bool} {a k : Nat} (hg : Good s six) (hk : Cut s a k) (h0 : 0 < k) (hk1 : k - 1 < s.length) (hb : hasB s[k - 1].1.pf six a = true) : (flat s).filter (hasR six a) = s[k - 1].1 :: s[k - 1].2.filter (hasR six a) := by
  have hsp : s = s.take (k - 1) ++ (s[k - 1] :: s.drop k) := by
    have := (List.take_append_drop (k - 1) s).symm
    rw [List.drop_eq_getElem_cons hk1, show k - 1 + 1 = k by omega] at this
    exact this
  have hfa : flat s = flat (s.take (k - 1)) ++ ((s[k - 1].1 :: s[k - 1].2) ++ flat (s.drop k)) := by
    have h1 : flat s = flat (s.take (k - 1) ++ (s[k - 1] :: s.drop k)) := congrArg flat hsp
    rw [h1]
    unfold flat
    rw [List.flatMap_append, List.flatMap_cons]
  obtain ⟨e1, e2, e3, e4⟩ := (has_iff (hg.ok _ (List.getElem_mem hk1)) _ _).1 hb
  rw [hfa, List.filter_append, List.filter_append, flat_none (s := s.take (k - 1)) (fun x hx => hg.cov x (List.mem_of_mem_take hx)) (fun x hx => ?_), flat_none (s := s.drop k) (fun x hx => hg.cov x (List.mem_of_mem_drop hx)) (fun x hx => ?_), List.nil_append, List.append_nil, List.filter_cons_of_pos (show hasR six a s[k - 1].1 = true from hb)]
  · cases hc : hasB x.1.pf six a with
    | false => rfl
    | true =>
      obtain ⟨j, hj, rfl⟩ := List.getElem_of_mem hx
      rw [List.length_drop] at hj
      rw [List.getElem_drop] at hc
      obtain ⟨f1, f2, f3, f4⟩ := (has_iff (hg.ok _ (List.getElem_mem _)) _ _).1 hc
      have := hk.2.2 (k + j) (by omega) (by omega)
      omega
  · cases hc : hasB x.1.pf six a with
    | false => rfl
    | true =>
      obtain ⟨j, hj, rfl⟩ := List.getElem_of_mem hx
      rw [List.length_take] at hj
      rw [List.getElem_take] at hc
      obtain ⟨f1, f2, f3, f4⟩ := (has_iff (hg.ok _ (List.getElem_mem _)) _ _).1 hc
      have := List.pairwise_iff_getElem.1 hg.up j (k - 1) (by omega) hk1 (by omega)
      omega
end Go.Proofs.YtkjhnefbcnnjlaaGreat.Tr
namespace Go.Proofs.YtkjhnefbcnnjlaaGreat.Tr
open Go.Proofs.YtkjhnefbcnnjlaaGreat.Addr (Pf)
theorem othersT_len (l : List Rt) (p : Pf) : (othersT l p).length = (aheadT l p).length + (behindT l p).length := by
  unfold othersT aheadT behindT
  induction l with
  | nil => rfl
  | cons x l ih =>
    rcases Int.lt_trichotomy (ordP x.pf p) 0 with h | h | h
    · rw [List.filter_cons_of_pos (by simp; omega), List.filter_cons_of_pos (by simp; omega), List.filter_cons_of_neg (by simp; omega), List.length_cons, List.length_cons, ih]; omega
    · rw [List.filter_cons_of_neg (by simp; omega), List.filter_cons_of_neg (by simp; omega), List.filter_cons_of_neg (by simp; omega), ih]
    · rw [List.filter_cons_of_pos (by simp; omega), List.filter_cons_of_neg (by simp; omega), List.filter_cons_of_pos (by simp; omega), List.length_cons, List.length_cons, ih]; omega
theorem insT_len (l : List Rt) (r : Rt) : (insT l r).length = (othersT l r.pf).length + 1 := by
  unfold insT
  rw [othersT_len]
  simp only [List.length_append, List.length_cons, List.length_nil]
  omega
theorem insT_mem {l : List Rt} {r x : Rt} (h : x ∈ insT l r) : x = r ∨ x ∈ l := by
  unfold insT aheadT behindT at h
  simp only [List.mem_append, List.mem_filter, List.mem_singleton] at h
  rcases h with h | h | h
  · exact .inr h.1
  · exact .inl h
  · exact .inr h.1
theorem insT_up {l : List Rt} {r : Rt} (h : Up l) : Up (insT l r) := by
  unfold insT
  refine List.pairwise_append.2 ⟨h.filter _, List.pairwise_append.2 ⟨List.pairwise_singleton _ _, h.filter _, fun a ha b hb => ?_⟩, fun a ha b hb => ?_⟩
  · rw [List.mem_singleton] at ha
    subst ha
    have := (List.mem_filter.1 hb).2
    simp only [decide_eq_true_eq] at this
    exact (ordP_gt _ _).1 this
  · have h1 := (List.mem_filter.1 ha).2
    simp only [decide_eq_true_eq] at h1
    have h1 := (ordP_lt _ _).1 h1
    rcases List.mem_append.1 hb with hb | hb
    · rw [List.mem_singleton] at hb
      subst hb
      exact h1
    · have := (List.mem_filter.1 hb).2
      simp only [decide_eq_true_eq] at this
      exact ltP_trans h1 ((ordP_gt _ _).1 this)
theorem othersT_le (l : List Rt) (p : Pf) : (othersT l p).length ≤ l.length := List.length_filter_le _ _
theorem putT_ok {l : List Rt} {r : Rt} (h : (putT l r).2 = 0) : okT l = true ∧ okR r = true ∧ (putT l r).1 = insT l r ∧ okT (insT l r) = true := by
  unfold putT at h ⊢
  cases h1 : okT l && okR r with
  | false => rw [h1] at h; simp at h
  | true =>
    rw [h1] at h
    simp only [if_true] at h ⊢
    rw [Bool.and_eq_true] at h1
    by_cases h2 : (othersT l r.pf).length = 256
    · rw [if_pos h2] at h; simp at h
    · rw [if_neg h2]
      obtain ⟨k1, k2, k3⟩ := (okT_iff l).1 h1.1
      refine ⟨h1.1, h1.2, rfl, (okT_iff _).2 ⟨?_, fun x hx => ?_, insT_up k3⟩⟩
      · rw [insT_len]; have := othersT_le l r.pf; omega
      · rcases insT_mem hx with rfl | hx
        · exact h1.2
        · exact k2 x hx
end Go.Proofs.YtkjhnefbcnnjlaaGreat.Tr
namespace Go.Proofs.YtkjhnefbcnnjlaaGreat.Lk
abbrev Up (l : List Lk) : Prop := l.Pairwise (fun x y => x.iface < y.iface)
theorem rise_of (l : List Lk) : ∀ p, (∀ x ∈ l, okK x = true) → Up l → (∀ r, p = some r → ∀ x ∈ l, r < x.iface) → rise p l = true := by
  induction l with
  | nil => intro p _ _ _; cases p <;> rfl
  | cons s l ih =>
    intro p h1 h2 h3
    have hp := List.pairwise_cons.1 h2
    have hr := ih (some s.iface) (fun x hx => h1 x (List.mem_cons_of_mem _ hx)) hp.2 (fun r e x hx => by injection e with e; subst e; exact hp.1 x hx)
    have hs := h1 s List.mem_cons_self
    cases p with
    | none => simp only [rise, hs, hr, Bool.and_self]
    | some r => simp only [rise, hs, hr, Bool.and_true, Bool.true_and, decide_eq_true_eq]; exact h3 r rfl s List.mem_cons_self
theorem okL_iff (l : List Lk) : okL l = true ↔ l.length ≤ 32 ∧ (∀ x ∈ l, okK x = true) ∧ Up l :=
  ⟨fun h => ⟨okL_len2 h, fun x hx => okL_mem h hx, okL_up h⟩, fun h => by
    unfold okL
    rw [rise_of l none h.2.1 h.2.2 (fun r e => by cases e), decide_eq_true h.1]
    rfl⟩
def insL (l : List Lk) (x : Lk) : List Lk := aheadL l x.iface ++ ([x] ++ behindL l x.iface)
theorem mem_others (l : List Lk) (i : Int) (z : Lk) : z ∈ others l i ↔ z ∈ l ∧ z.iface ≠ i := by
  unfold others
  rw [List.mem_filter]
  simp
theorem mem_insL (l : List Lk) (x z : Lk) : z ∈ insL l x ↔ z = x ∨ (z ∈ l ∧ z.iface ≠ x.iface) := by
  unfold insL aheadL behindL
  simp only [List.mem_append, List.mem_filter, List.mem_cons, List.not_mem_nil, or_false, decide_eq_true_eq]
  constructor
  · rintro (⟨h1, h2⟩ | h | ⟨h1, h2⟩)
    · exact .inr ⟨h1, by omega⟩
    · exact .inl h
    · exact .inr ⟨h1, by omega⟩
  · rintro (h | ⟨h1, h2⟩)
    · exact .inr (.inl h)
    · rcases Int.lt_or_gt_of_ne h2 with h3 | h3
      · exact .inl ⟨h1, h3⟩
      · exact .inr (.inr ⟨h1, h3⟩)
theorem up_insL {l : List Lk} (h : Up l) (x : Lk) : Up (insL l x) := by
  unfold insL
  refine List.pairwise_append.2 ⟨h.sublist List.filter_sublist, List.pairwise_cons.2 ⟨fun z hz => ?_, h.sublist List.filter_sublist⟩, fun a ha b hb => ?_⟩
  · have := (List.mem_filter.1 hz).2
    simpa using this
  · have h1 := (List.mem_filter.1 ha).2
    simp only [decide_eq_true_eq] at h1
    rcases List.mem_append.1 hb with hb | hb
    · simp at hb; subst hb; exact h1
    · have h2 := (List.mem_filter.1 hb).2
      simp only [decide_eq_true_eq] at h2
      omega
theorem len_insL {l : List Lk} (h : Up l) (x : Lk) : (insL l x).length = (others l x.iface).length + 1 := by
  rw [(others_split h x.iface).1]
  unfold insL
  simp only [List.length_append, List.length_cons, List.length_nil]
  omega
theorem up_others {l : List Lk} (h : Up l) (i : Int) : Up (others l i) := h.sublist List.filter_sublist
theorem others_le (l : List Lk) (i : Int) : (others l i).length ≤ l.length := List.length_filter_le _ _
theorem others_all {l : List Lk} {i : Int} (h : (others l i).length = l.length) : others l i = l := List.filter_sublist.eq_of_length h
theorem put_ok {l : List Lk} {x : Lk} (h : (putL l x).2 = 0) : okL l = true ∧ okK x = true ∧ (others l x.iface).length ≤ 31 ∧ (putL l x).1 = insL l x := by
  unfold putL at h ⊢
  split at h
  · rename_i hc
    rw [if_pos hc]
    simp only [Bool.and_eq_true] at hc
    split at h
    · cases h
    · rename_i h3
      have := okL_len2 hc.1
      have := others_le l x.iface
      rw [if_neg h3]
      exact ⟨hc.1, hc.2, by omega, rfl⟩
  · cases h
theorem put_not {l : List Lk} {x : Lk} (h : ¬ (putL l x).2 = 0) : (putL l x).2 = 2 ∨ ((putL l x).2 = 8 ∧ (putL l x).1 = l) := by
  unfold putL at h ⊢
  split at h
  · rename_i hc
    rw [if_pos hc]
    simp only [Bool.and_eq_true] at hc
    split at h
    · rename_i h3
      have := okL_len2 hc.1
      have := others_le l x.iface
      rw [if_pos h3]
      exact .inr ⟨rfl, others_all (by omega)⟩
    · exact absurd rfl h
  · rename_i hc
    rw [if_neg hc]
    exact .inl rfl
theorem ok_ins {l : List Lk} {x : Lk} (h1 : okL l = true) (h2 : okK x = true) (h3 : (others l x.iface).length ≤ 31) : okL (insL l x) = true := by
  have hl := (okL_iff l).1 h1
  refine (okL_iff _).2 ⟨by rw [len_insL hl.2.2]; omega, fun z hz => ?_, up_insL hl.2.2 x⟩
  rcases (mem_insL l x z).1 hz with rfl | ⟨hz, _⟩
  · exact h2
  · exact hl.2.1 z hz
end Go.Proofs.YtkjhnefbcnnjlaaGreat.Lk
namespace Go.Proofs.YtkjhnefbcnnjlaaGreat.Fib
open Go.Proofs.YtkjhnefbcnnjlaaGreat.Addr (Pf okP)
open Go.Proofs.YtkjhnefbcnnjlaaGreat.Msg (Ev Ac okE FitE okA headB partsB)
open Go.Proofs.YtkjhnefbcnnjlaaGreat.Lk (Lk okL okK FitL delL others)
open Go.Proofs.YtkjhnefbcnnjlaaGreat.Tr (Rt okT okR FitR putT delT othersT)
theorem okE_parts {e : Ev} (h : okE e = true) : (1 ≤ e.kind ∧ e.kind ≤ 6) ∧ (0 ≤ e.router ∧ e.router ≤ 1048576) ∧ okP e.pf = true ∧ (0 ≤ e.iface ∧ e.iface ≤ 65536) ∧ (0 ≤ e.peer ∧ e.peer ≤ 1048576) ∧ (e.kind = 3 → okA e.act = true) := by
  unfold okE headB partsB at h
  simp only [Bool.and_eq_true, decide_eq_true_eq, Bool.or_eq_true, and_assoc] at h
  obtain ⟨h1, h2, h3, h4, h5, h6, h7, h8, h9, h10, h11, h12, h13, h14, h15⟩ := h
  refine ⟨⟨h1, h2⟩, ⟨h3, h4⟩, h9, ⟨h10, h11⟩, ⟨h12, h13⟩, fun hk => ?_⟩
  rcases h14 with h | h
  · exact absurd hk h
  · exact h
theorem okId_iff (i : Int) : okId i = true ↔ 0 ≤ i ∧ i ≤ 1048576 := by unfold okId; simp
theorem okK_of {i p : Int} (h1 : 0 ≤ i ∧ i ≤ 65536) (h2 : 0 ≤ p ∧ p ≤ 1048576) : okK ⟨i, p⟩ = true := by
  unfold okK
  simp only [Bool.and_eq_true, decide_eq_true_eq]
  omega
theorem okR_of {p : Pf} {a : Ac} (h1 : okP p = true) (h2 : okA a = true) : okR ⟨p, a⟩ = true := by unfold okR; rw [h1, h2]; rfl
theorem mem_othersT {l : List Rt} {p : Pf} {z : Rt} : z ∈ othersT l p ↔ z ∈ l ∧ z.pf ≠ p := by
  unfold othersT
  rw [List.mem_filter]
  simp [Tr.ordP_eq]
theorem okT_others {l : List Rt} (h : okT l = true) (p : Pf) : okT (othersT l p) = true := by
  obtain ⟨h1, h2, h3⟩ := (Tr.okT_iff l).1 h
  exact (Tr.okT_iff _).2 ⟨Nat.le_trans (Tr.othersT_le l p) h1, fun x hx => h2 x (mem_othersT.1 hx).1, h3.sublist List.filter_sublist⟩
theorem okL_others {l : List Lk} (h : okL l = true) (i : Int) : okL (others l i) = true := by
  obtain ⟨h1, h2, h3⟩ := (Lk.okL_iff l).1 h
  exact (Lk.okL_iff _).2 ⟨Nat.le_trans (Lk.others_le l i) h1, fun x hx => h2 x ((Lk.mem_others l i x).1 hx).1, Lk.up_others h3 i⟩
theorem okRo_iff (R : Ro) : okRo R = true ↔ okId R.id = true ∧ okT R.rts = true ∧ okL R.lks = true ∧ (R.up = true ∨ (R.rts = [] ∧ R.lks = [])) := by
  unfold okRo
  simp only [Bool.and_eq_true, Bool.or_eq_true, decide_eq_true_eq, and_assoc]
  have : R.rts.length + R.lks.length = 0 ↔ R.rts = [] ∧ R.lks = [] := by
    rw [Nat.add_eq_zero_iff, List.length_eq_zero_iff, List.length_eq_zero_iff]
  rw [this]
/-- an event that happened, or did not: what there is then -/
theorem apply_right {R : Ro} {e : Ev} (hr : okRo R = true) (he : okE e = true) (hm : misRo R e = 0) :
    ((takeRo R e).2 = 0 ∧ okRo (takeRo R e).1 = true ∧ (takeRo R e).1.id = R.id ∧ (takeRo R e).1.up = !decide (e.kind = 2) ∧ (¬ (e.kind = 3 ∨ e.kind = 4 ∨ e.kind = 2) → (takeRo R e).1.rts = R.rts) ∧ (¬ (e.kind = 5 ∨ e.kind = 6 ∨ e.kind = 2) → (takeRo R e).1.lks = R.lks)) ∨ ((takeRo R e).2 = 8 ∧ (takeRo R e).1 = R) := by
  obtain ⟨r1, r2, r3, r4⟩ := (okRo_iff R).1 hr
  obtain ⟨e1, e2, e3, e4, e5, e6⟩ := okE_parts he
  have hrt : e.router = R.id := by
    unfold misRo at hm
    split at hm
    · assumption
    · cases hm
  have hst : decide (e.kind = 1) ≠ R.up := by
    unfold misRo at hm
    rw [if_pos hrt] at hm
    split at hm
    · cases hm
    · assumption
  obtain ⟨id, up, rts, lks⟩ := R
  simp only at r1 r2 r3 r4 hst
  have hup : e.kind ≠ 1 → up = true := fun h => by
    rw [decide_eq_false h] at hst
    cases up
    · exact absurd rfl hst
    · rfl
  unfold takeRo
  simp only
  by_cases k1 : e.kind = 1
  · rw [if_pos k1]
    refine .inl ⟨rfl, (okRo_iff _).2 ⟨r1, r2, r3, .inl rfl⟩, rfl, ?_, fun _ => rfl, fun _ => rfl⟩
    rw [decide_eq_false (by omega)]; rfl
  rw [if_neg k1]
  have hu := hup k1
  subst hu
  by_cases k2 : e.kind = 2
  · rw [if_pos k2]
    refine .inl ⟨rfl, (okRo_iff _).2 ⟨r1, rfl, rfl, .inr ⟨rfl, rfl⟩⟩, rfl, ?_, fun h => absurd (.inr (.inr k2)) h, fun h => absurd (.inr (.inr k2)) h⟩
    rw [decide_eq_true k2]; rfl
  rw [if_neg k2]
  have hd : (true : Bool) = !decide (e.kind = 2) := by rw [decide_eq_false k2]; rfl
  by_cases k3 : e.kind = 3
  · rw [if_pos k3]
    have hR := okR_of e3 (e6 k3)
    by_cases h0 : (putT rts ⟨e.pf, e.act⟩).2 = 0
    · obtain ⟨p1, p2, p3, p4⟩ := Tr.putT_ok h0
      refine .inl ⟨h0, (okRo_iff _).2 ⟨r1, ?_, r3, .inl rfl⟩, rfl, hd, fun h => absurd (.inl k3) h, fun _ => rfl⟩
      show okT (putT rts ⟨e.pf, e.act⟩).1 = true
      rw [p3]; exact p4
    · unfold putT at h0 ⊢
      rw [r2, hR] at h0 ⊢
      simp only [Bool.and_self, if_true] at h0 ⊢
      split at h0
      · rename_i h9
        rw [if_pos h9]
        exact .inr ⟨rfl, rfl⟩
      · exact absurd rfl h0
  rw [if_neg k3]
  by_cases k4 : e.kind = 4
  · rw [if_pos k4]
    have hD : (delT rts e.pf).1 = othersT rts e.pf := by unfold delT; rw [r2, e3]; rfl
    refine .inl ⟨rfl, (okRo_iff _).2 ⟨r1, ?_, r3, .inl rfl⟩, rfl, hd, fun h => absurd (.inr (.inl k4)) h, fun _ => rfl⟩
    show okT (delT rts e.pf).1 = true
    rw [hD]; exact okT_others r2 _
  rw [if_neg k4]
  by_cases k5 : e.kind = 5
  · rw [if_pos k5]
    have hK := okK_of e4 e5
    by_cases h0 : (Lk.putL lks ⟨e.iface, e.peer⟩).2 = 0
    · obtain ⟨p1, p2, p3, p4⟩ := Lk.put_ok h0
      refine .inl ⟨h0, (okRo_iff _).2 ⟨r1, r2, ?_, .inl rfl⟩, rfl, hd, fun _ => rfl, fun h => absurd (.inl k5) h⟩
      show okL (Lk.putL lks ⟨e.iface, e.peer⟩).1 = true
      rw [p4]; exact Lk.ok_ins p1 p2 p3
    · rcases Lk.put_not h0 with h1 | ⟨h1, h2⟩
      · exfalso
        unfold Lk.putL at h1
        rw [r3, hK] at h1
        simp only [Bool.and_self, if_true] at h1
        split at h1 <;> cases h1
      · refine .inr ⟨h1, ?_⟩
        rw [h2]
  rw [if_neg k5]
  have k6 : e.kind = 6 := by omega
  rw [if_pos k6]
  have hD : (delL lks e.iface).1 = others lks e.iface := by unfold delL; rw [r3]; rfl
  refine .inl ⟨rfl, (okRo_iff _).2 ⟨r1, r2, ?_, .inl rfl⟩, rfl, hd, fun _ => rfl, fun h => absurd (.inr (.inl k6)) h⟩
  show okL (delL lks e.iface).1 = true
  rw [hD]; exact okL_others r3 _
theorem apply_cases (R : Ro) (e : Ev) :
    ((applyRo R e).2 = 0 ∧ okRo R = true ∧ okE e = true ∧ misRo R e = 0 ∧ applyRo R e = takeRo R e ∧ okRo (applyRo R e).1 = true ∧ (applyRo R e).1.id = R.id ∧ (applyRo R e).1.up = !decide (e.kind = 2) ∧ (¬ (e.kind = 3 ∨ e.kind = 4 ∨ e.kind = 2) → (applyRo R e).1.rts = R.rts) ∧ (¬ (e.kind = 5 ∨ e.kind = 6 ∨ e.kind = 2) → (applyRo R e).1.lks = R.lks)) ∨ ((applyRo R e).2 = 2 ∧ (applyRo R e).1 = zeroRo) ∨ ((applyRo R e).2 ≠ 0 ∧ (applyRo R e).2 ≠ 2 ∧ (applyRo R e).1 = R ∧ okRo R = true) := by
  unfold applyRo
  cases h : okRo R && okE e with
  | false => exact .inr (.inl ⟨rfl, rfl⟩)
  | true =>
    rw [Bool.and_eq_true] at h
    simp only [if_true]
    by_cases hm : misRo R e = 0
    · rw [if_pos hm]
      rcases apply_right h.1 h.2 hm with h' | ⟨h1, h2⟩
      · exact .inl ⟨h'.1, h.1, h.2, hm, rfl, h'.2⟩
      · exact .inr (.inr ⟨by rw [h1]; decide, by rw [h1]; decide, h2, h.1⟩)
    · rw [if_neg hm]
      refine .inr (.inr ⟨hm, ?_, rfl, h.1⟩)
      show misRo R e ≠ 2
      unfold misRo
      (repeat' split) <;> decide
theorem fit_apply {R : Ro} {e : Ev} (hR : FitRo R) (he : FitE e) : FitRo (applyRo R e).1 := by
  have hz : FitRo zeroRo := ⟨by decide, (by intro x h; cases h), (by intro x h; cases h)⟩
  unfold applyRo
  split
  · split
    · unfold takeRo
      have h3 : FitR ⟨e.pf, e.act⟩ := ⟨⟨he.len, he.n⟩, he.act⟩
      have h5 : FitL ⟨e.iface, e.peer⟩ := ⟨he.iface, he.peer⟩
      by_cases k1 : e.kind = 1
      · rw [if_pos k1]; exact ⟨hR.id, hR.rts, hR.lks⟩
      rw [if_neg k1]
      by_cases k2 : e.kind = 2
      · rw [if_pos k2]; exact ⟨hR.id, (by intro x h; cases h), (by intro x h; cases h)⟩
      rw [if_neg k2]
      by_cases k3 : e.kind = 3
      · rw [if_pos k3]
        refine ⟨hR.id, fun x hx => ?_, hR.lks⟩
        change x ∈ (putT R.rts ⟨e.pf, e.act⟩).1 at hx
        unfold putT at hx
        split at hx
        · split at hx
          · exact hR.rts x hx
          · rcases Tr.insT_mem hx with rfl | hx
            · exact h3
            · exact hR.rts x hx
        · cases hx
      rw [if_neg k3]
      by_cases k4 : e.kind = 4
      · rw [if_pos k4]
        refine ⟨hR.id, fun x hx => ?_, hR.lks⟩
        change x ∈ (delT R.rts e.pf).1 at hx
        unfold delT at hx
        split at hx
        · exact hR.rts x (mem_othersT.1 hx).1
        · cases hx
      rw [if_neg k4]
      by_cases k5 : e.kind = 5
      · rw [if_pos k5]
        refine ⟨hR.id, hR.rts, fun x hx => ?_⟩
        change x ∈ (Lk.putL R.lks ⟨e.iface, e.peer⟩).1 at hx
        unfold Lk.putL at hx
        split at hx
        · split at hx
          · exact hR.lks x ((Lk.mem_others _ _ _).1 hx).1
          · rcases (Lk.mem_insL _ _ _).1 hx with rfl | hx
            · exact h5
            · exact hR.lks x hx.1
        · cases hx
      rw [if_neg k5]
      by_cases k6 : e.kind = 6
      · rw [if_pos k6]
        refine ⟨hR.id, hR.rts, fun x hx => ?_⟩
        change x ∈ (delL R.lks e.iface).1 at hx
        unfold delL at hx
        split at hx
        · exact hR.lks x ((Lk.mem_others _ _ _).1 hx).1
        · cases hx
      rw [if_neg k6]
      exact hR
    · exact hR
  · exact hz
end Go.Proofs.YtkjhnefbcnnjlaaGreat.Fib
