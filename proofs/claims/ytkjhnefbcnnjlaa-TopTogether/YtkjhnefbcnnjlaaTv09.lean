/- The document's parts of links: those ahead of an interface, of it, behind it. -/
import Derived.Test.YtkjhnefbcnnjlaaTv08
import Derived.Test.YtkjhnefbcnnjlaaTv01
import Derived.BigQuiet
import Derived.Deep.AppendLies
set_option linter.unusedVariables false
namespace Go.Proofs.Ytkjhnefbcnnjlaa.Tr
open Go.RowKit
open Go.Proofs.Ytkjhnefbcnnjlaa.Addr (Pf okP)
open Go.Proofs.Ytkjhnefbcnnjlaa.Lk (HasRow addr_add)
def aheadT (l : List Rt) (p : Pf) : List Rt := l.filter (fun s => decide (ordP s.pf p < 0))
def behindT (l : List Rt) (p : Pf) : List Rt := l.filter (fun s => decide (0 < ordP s.pf p))
def othersT (l : List Rt) (p : Pf) : List Rt := l.filter (fun s => !decide (ordP s.pf p = 0))
def insT (l : List Rt) (r : Rt) : List Rt := aheadT l r.pf ++ ([r] ++ behindT l r.pf)
def putT (l : List Rt) (r : Rt) : List Rt × Int := if okT l && okR r then (if (othersT l r.pf).length = 256 then (l, 8) else (insT l r, 0)) else ([], 2)
def delT (l : List Rt) (p : Pf) : List Rt × Int := if okT l && okP p then (othersT l p, if (othersT l p).length = l.length then 3 else 0) else ([], 2)
theorem filt_all {α : Type} {f : α → Bool} {l : List α} (h : ∀ x ∈ l, f x = true) : l.filter f = l := List.filter_eq_self.2 h
theorem filt_none {α : Type} {f : α → Bool} {l : List α} (h : ∀ x ∈ l, f x = false) : l.filter f = [] := List.filter_eq_nil_iff.2 (fun x hx => by rw [h x hx]; simp)
/-- the list in three parts about a place -/
theorem parts_at {l : List Rt} {p : Pf} {k : Nat} (hu : Up l) (hk : Pos l p k) (hi : isAt l p k = true) : ∃ h : k < l.length, l[k].pf = p ∧ l.take k = aheadT l p ∧ l.drop (k + 1) = behindT l p ∧ othersT l p = l.take k ++ l.drop (k + 1) := by
  unfold isAt at hi
  have hkl : k < l.length := by
    rcases Nat.lt_or_ge k l.length with h | h
    · exact h
    · rw [List.getElem?_eq_none h] at hi; cases hi
  rw [List.getElem?_eq_getElem hkl] at hi
  simp only [decide_eq_true_eq] at hi
  have he : l[k].pf = p := (ordP_eq _ _).1 hi
  have hsp : l = l.take k ++ (l[k] :: l.drop (k + 1)) := by
    have := (List.take_append_drop k l).symm
    rw [List.drop_eq_getElem_cons hkl] at this
    exact this
  have h1 : ∀ x ∈ l.take k, ordP x.pf p < 0 := fun x hx => by
    obtain ⟨j, hj, rfl⟩ := List.getElem_of_mem hx
    rw [List.length_take] at hj
    rw [List.getElem_take]
    exact (ordP_lt _ _).2 (hk.2.1 j (by omega) (by omega))
  have h2 : ∀ x ∈ l.drop (k + 1), 0 < ordP x.pf p := fun x hx => by
    obtain ⟨j, hj, rfl⟩ := List.getElem_of_mem hx
    rw [List.length_drop] at hj
    rw [List.getElem_drop, ordP_gt]
    have := List.pairwise_iff_getElem.1 hu k (k + 1 + j) hkl (by omega) (by omega)
    rw [he] at this
    exact this
  have hz : ordP l[k].pf p = 0 := hi
  refine ⟨hkl, he, ?_, ?_, ?_⟩
  · unfold aheadT
    conv => rhs; rw [hsp]
    rw [List.filter_append, filt_all (fun x hx => decide_eq_true (h1 x hx)), filt_none (fun x hx => ?_), List.append_nil]
    rcases List.mem_cons.1 hx with rfl | hx
    · exact decide_eq_false (by omega)
    · have := h2 x hx; exact decide_eq_false (by omega)
  · unfold behindT
    conv => rhs; rw [hsp]
    rw [List.filter_append, filt_none (fun x hx => by have := h1 x hx; exact decide_eq_false (by omega)), List.filter_cons_of_neg (by rw [hz]; decide), List.nil_append, filt_all (fun x hx => decide_eq_true (h2 x hx))]
  · unfold othersT
    conv => lhs; rw [hsp]
    rw [List.filter_append, filt_all (fun x hx => by have := h1 x hx; simp; omega), List.filter_cons_of_neg (by rw [hz]; decide), filt_all (fun x hx => by have := h2 x hx; simp; omega)]
theorem parts_off {l : List Rt} {p : Pf} {k : Nat} (hu : Up l) (hk : Pos l p k) (hi : isAt l p k = false) : l.take k = aheadT l p ∧ l.drop k = behindT l p ∧ othersT l p = l := by
  have h1 : ∀ x ∈ l.take k, ordP x.pf p < 0 := fun x hx => by
    obtain ⟨j, hj, rfl⟩ := List.getElem_of_mem hx
    rw [List.length_take] at hj
    rw [List.getElem_take]
    exact (ordP_lt _ _).2 (hk.2.1 j (by omega) (by omega))
  have h2 : ∀ x ∈ l.drop k, 0 < ordP x.pf p := fun x hx => by
    obtain ⟨j, hj, rfl⟩ := List.getElem_of_mem hx
    rw [List.length_drop] at hj
    rw [List.getElem_drop]
    have hkl : k < l.length := by omega
    have hnk : 0 < ordP l[k].pf p := by
      unfold isAt at hi
      rw [List.getElem?_eq_getElem hkl] at hi
      simp only [decide_eq_false_iff_not] at hi
      have := hk.2.2 k hkl (Nat.le_refl _)
      rw [← ordP_lt] at this
      omega
    by_cases e : j = 0
    · subst e; exact hnk
    · rw [ordP_gt] at hnk ⊢
      exact ltP_trans hnk (List.pairwise_iff_getElem.1 hu k (k + j) hkl (by omega) (by omega))
  have hsp := (List.take_append_drop k l).symm
  refine ⟨?_, ?_, ?_⟩
  · unfold aheadT
    conv => rhs; rw [hsp]
    rw [List.filter_append, filt_all (fun x hx => decide_eq_true (h1 x hx)), filt_none (fun x hx => by have := h2 x hx; exact decide_eq_false (by omega)), List.append_nil]
  · unfold behindT
    conv => rhs; rw [hsp]
    rw [List.filter_append, filt_none (fun x hx => by have := h1 x hx; exact decide_eq_false (by omega)), List.nil_append, filt_all (fun x hx => decide_eq_true (h2 x hx))]
  · unfold othersT
    conv => lhs; rw [hsp]
    rw [List.filter_append, filt_all (fun x hx => by have := h1 x hx; simp; omega), filt_all (fun x hx => by have := h2 x hx; simp; omega), List.take_append_drop]
/-- parts of a row in memory -/
theorem rtCs_take (l : List Rt) : ∀ j, (rtCs l).take (j * 6) = rtCs (l.take j) := by
  induction l with
  | nil => intro j; simp [rtCs]
  | cons x l ih =>
    intro j
    cases j with
    | zero => simp [rtCs]
    | succ j =>
      show (rtC x ++ rtCs l).take ((j + 1) * 6) = rtC x ++ rtCs (l.take j)
      rw [List.take_append, ← ih j]
      congr 1
      · rw [List.take_of_length_le (by show 6 ≤ _; omega)]
      · show (rtCs l).take ((j + 1) * 6 - 6) = _
        congr 1
        omega
theorem rtCs_drop (l : List Rt) : ∀ j, (rtCs l).drop (j * 6) = rtCs (l.drop j) := by
  induction l with
  | nil => intro j; simp [rtCs]
  | cons x l ih =>
    intro j
    cases j with
    | zero => simp
    | succ j =>
      show (rtC x ++ rtCs l).drop ((j + 1) * 6) = rtCs (l.drop j)
      rw [List.drop_append, ← ih j, List.drop_of_length_le (l := rtC x) (by show 6 ≤ _; omega), List.nil_append]
      show (rtCs l).drop ((j + 1) * 6 - 6) = _
      congr 1
      omega
theorem HasRts.take {W : World} {o : Option Addr} {n c : Nat} {l : List Rt} (h : HasRts W (.slice o n c) l) (k : Nat) (hk : k ≤ l.length) : HasRts W (.slice o k c) (l.take k) := by
  have hlk : (l.take k).length = k := by rw [List.length_take]; omega
  show HasRow _ _ _ _ _
  rw [hlk]
  refine ⟨by rw [rtCs_len, hlk], ?_⟩
  rcases h.2 with ⟨e, h0⟩ | ⟨a, cap, e, h1, h2, h3, h4⟩
  · injection e with e1 e2 e3
    subst e1 e3
    have hk0 : k = 0 := by omega
    subst hk0
    exact .inl ⟨rfl, rfl⟩
  · injection e with e1 e2 e3
    subst e1 e3
    refine .inr ⟨a, c, rfl, by omega, h2, fun hp => h3 (by omega), fun j hj => ?_⟩
    rw [h4 j (by omega), ← rtCs_take, List.getElem?_take, if_pos hj]
theorem HasRts.drop {W : World} {b i n c : Nat} {l : List Rt} (h : HasRts W (.slice (some ⟨b, i, none⟩) n c) l) (k : Nat) (hk : k ≤ l.length) : HasRts W (.slice (some ⟨b, i + k * 6, none⟩) (l.length - k) (c - k)) (l.drop k) := by
  have hlk : (l.drop k).length = l.length - k := by rw [List.length_drop]
  show HasRow _ _ _ _ _
  rw [hlk]
  refine ⟨by rw [rtCs_len, hlk], ?_⟩
  rcases h.2 with ⟨e, h0⟩ | ⟨a, cap, e, h1, h2, h3, h4⟩
  · cases e
  · injection e with e1 e2 e3
    injection e1 with e1
    subst e1 e3
    refine .inr ⟨_, _, rfl, by omega, by omega, fun hp => ⟨rfl, (h3 (by omega)).2⟩, fun j hj => ?_⟩
    have := h4 (k * 6 + j) (by omega)
    rw [addr_add] at this ⊢
    rw [Nat.add_assoc, this, ← rtCs_drop, List.getElem?_drop]
/-- nothing of a row -/
theorem has_empty (W : World) (a : Addr) (c : Nat) (hc : c ≤ 9223372036854775807) : HasRts W (.slice (some a) 0 c) [] :=
  ⟨rfl, .inr ⟨a, c, rfl, Nat.zero_le _, hc, fun h => absurd h (by decide), fun j hj => absurd hj (by show ¬ j < 0 * 6; omega)⟩⟩
end Go.Proofs.Ytkjhnefbcnnjlaa.Tr
namespace Go.Proofs.Ytkjhnefbcnnjlaa.Lk
open Go.RowKit
open Go.Proofs.Ytkjhnefbcnnjlaa.Addr (RowAt below_new RowAt.new RowAt.alloc cells2)
set_option maxHeartbeats 4000000 in
theorem right_walk (a b : Int) (w : World) : Calls Try.prog 58 #[.agg #[.int .i64 a, .int .i64 b]] w fun e w' => e = .returned (.bool (decide (0 ≤ a) && decide (a ≤ 65536) && decide (0 ≤ b) && decide (b ≤ 1048576))) ∧ Below w.heap.size w w' := by
  obtain ⟨X, hX⟩ : ∃ X, X = w.alloc (.cells #[.int .i64 a, .int .i64 b] 75) := ⟨_, rfl⟩
  have hB : Below w.heap.size w X := by rw [hX]; exact below_new (Below.refl _ _) _
  have r0 : RowAt X w.heap.size [.int .i64 a, .int .i64 b] 75 := by rw [hX]; exact RowAt.new _ _ _
  obtain ⟨x0, x1, xf⟩ := cells2 r0
  clear r0
  generalize hR : (decide (0 ≤ a) && decide (a ≤ 65536) && decide (0 ≤ b) && decide (b ≤ 1048576)) = R
  have HR : Hid ((decide (0 ≤ a) && decide (a ≤ 65536) && decide (0 ≤ b) && decide (b ≤ 1048576)) = R) := hR
  clear hR
  cases q0 : decide (0 ≤ a)
  · go_enter Try.func58, Try.ntmps58
    go_upto_region 1 with fail
    rw [← hX]
    clear hX
    go_wp2_with fail
    go_ret
    exact ⟨by rw [← HR.out]; simp [q0], hB⟩
  cases q1 : decide (a ≤ 65536)
  · go_enter Try.func58, Try.ntmps58
    go_upto_region 1 with fail
    rw [← hX]
    clear hX
    go_wp2_with fail
    go_ret
    exact ⟨by rw [← HR.out]; simp [q0, q1], hB⟩
  cases q2 : decide (0 ≤ b)
  · go_enter Try.func58, Try.ntmps58
    go_upto_region 1 with fail
    rw [← hX]
    clear hX
    go_wp2_with fail
    go_ret
    exact ⟨by rw [← HR.out]; simp [q0, q1, q2], hB⟩
  cases q3 : decide (b ≤ 1048576)
  · go_enter Try.func58, Try.ntmps58
    go_upto_region 1 with fail
    rw [← hX]
    clear hX
    go_wp2_with fail
    go_ret
    exact ⟨by rw [← HR.out]; simp [q0, q1, q2, q3], hB⟩
  go_enter Try.func58, Try.ntmps58
  go_upto_region 1 with fail
  rw [← hX]
  clear hX
  go_wp2_with fail
  go_ret
  exact ⟨by rw [← HR.out]; simp [q0, q1, q2, q3], hB⟩
theorem right_any (x : Lk) (w : World) : Calls Try.prog 58 #[.agg #[.int .i64 x.iface, .int .i64 x.peer]] w fun e w' => e = .returned (.bool (okK x)) ∧ Below w.heap.size w w' := right_walk x.iface x.peer w
end Go.Proofs.Ytkjhnefbcnnjlaa.Lk
namespace Go.Proofs.Ytkjhnefbcnnjlaa.Lk
open Go.RowKit
open Go.Proofs.Ytkjhnefbcnnjlaa.Addr (RowAt below2 below_new RowAt.cell RowAt.new RowAt.alloc cells2)
theorem of_any (i : Int) (w : World) : Calls Try.prog 68 #[.int .i64 i] w fun e w' => e = .returned (.func (.func 89) #[] #[.pointer (some ⟨w.heap.size, 0, none⟩)]) ∧ w' = w.alloc (.cells #[.int .i64 i] 3) := by
  go_enter Try.func68, Try.ntmps68
  go_wp2_with fail
  go_ret
  exact ⟨rfl, rfl⟩
/-- where the first element is that p holds of -/
def idxL {α : Type} (p : α → Bool) (l : List α) : Int := match l.findIdx? p with
  | some k => (k : Int)
  | none => -1
theorem idx_at {α : Type} {p : α → Bool} {l : List α} {k : Nat} (hk : k < l.length) (h : ∀ j (hj : j < l.length), j < k → p l[j] = false) (hp : p l[k] = true) : idxL p l = (k : Int) := by
  unfold idxL
  rw [(List.findIdx?_eq_some_iff_getElem (xs := l) (p := p) (i := k)).2 ⟨hk, hp, fun j hj => by rw [h j (by omega) hj]; simp⟩]
theorem idx_none {α : Type} {p : α → Bool} {l : List α} (h : ∀ j (hj : j < l.length), p l[j] = false) : idxL p l = -1 := by
  unfold idxL
  rw [List.findIdx?_eq_none_iff.2 (fun x hx => by obtain ⟨j, hj, rfl⟩ := List.getElem_of_mem hx; exact h j hj)]
set_option maxHeartbeats 2000000 in
theorem of1_any (x : Lk) (i : Int) (g : Nat) (w : World) (hg : w.cell? ⟨g, 0, none⟩ = some (.int .i64 i)) (hl : g < w.heap.size) : Calls Try.prog 89 #[.agg #[.int .i64 x.iface, .int .i64 x.peer], .pointer (some ⟨g, 0, none⟩)] w fun e w' => e = .returned (.bool (decide (x.iface = i))) ∧ Below w.heap.size w w' := by
  obtain ⟨a, b⟩ := x
  simp only
  obtain ⟨X, hX⟩ : ∃ X, X = w.alloc (.cells #[.int .i64 a, .int .i64 b] 75) := ⟨_, rfl⟩
  have hB : Below w.heap.size w X := by rw [hX]; exact below_new (Below.refl _ _) _
  have r0 : RowAt X w.heap.size [.int .i64 a, .int .i64 b] 75 := by rw [hX]; exact RowAt.new _ _ _
  have hg2 : X.cell? ⟨g, 0, none⟩ = some (.int .i64 i) := (hB.cell (p := ⟨g, 0, none⟩) hl).trans hg
  obtain ⟨x0, x1, xf⟩ := cells2 r0
  go_enter Try.func89, Try.ntmps89
  go_upto_region 1 with fail
  rw [← hX]
  clear hX r0
  go_wp2_with fail
  have hB2 := hB
  go_ret
  exact ⟨by first | rfl | simp | (congr 2; rw [Bool.eq_iff_iff]; simp), hB2⟩
set_option maxHeartbeats 2000000 in
theorem put1_any (x : Lk) (i : Int) (g : Nat) (w : World) (hg : w.cell? ⟨g, 0, none⟩ = some (.int .i64 i)) (hl : g < w.heap.size) : Calls Try.prog 70 #[.agg #[.int .i64 x.iface, .int .i64 x.peer], .pointer (some ⟨g, 0, none⟩)] w fun e w' => e = .returned (.bool (decide (i < x.iface))) ∧ Below w.heap.size w w' := by
  obtain ⟨a, b⟩ := x
  simp only
  obtain ⟨X, hX⟩ : ∃ X, X = w.alloc (.cells #[.int .i64 a, .int .i64 b] 75) := ⟨_, rfl⟩
  have hB : Below w.heap.size w X := by rw [hX]; exact below_new (Below.refl _ _) _
  have r0 : RowAt X w.heap.size [.int .i64 a, .int .i64 b] 75 := by rw [hX]; exact RowAt.new _ _ _
  have hg2 : X.cell? ⟨g, 0, none⟩ = some (.int .i64 i) := (hB.cell (p := ⟨g, 0, none⟩) hl).trans hg
  obtain ⟨x0, x1, xf⟩ := cells2 r0
  go_enter Try.func70, Try.ntmps70
  go_upto_region 1 with fail
  rw [← hX]
  clear hX r0
  go_wp2_with fail
  have hB2 := hB
  go_ret
  exact ⟨by first | rfl | simp | (congr 2; rw [Bool.eq_iff_iff]; simp), hB2⟩
set_option maxHeartbeats 4000000 in
set_option maxRecDepth 20000 in
theorem idxOf_any (l : List Lk) (v : Value) (i : Int) (g : Nat) (w : World) (hl : HasLks w v l) (hg : w.cell? ⟨g, 0, none⟩ = some (.int .i64 i)) (hlt : g < w.heap.size) :
    Calls Try.prog 69 #[v, .func (.func 89) #[] #[.pointer (some ⟨g, 0, none⟩)]] w fun e w' => e = .returned (.int .i64 (idxL (fun x : Lk => decide (x.iface = i)) l)) ∧ Below w.heap.size w w' := by
  obtain ⟨o, c, rfl, hc1, hc2⟩ := HasRow.slice hl
  have HR : Hid (∀ wr : World, Below w.heap.size w wr → HasLks wr (.slice o l.length c) l) := fun wr hb => hl.keep hb
  have HG : Hid (∀ wr : World, Below w.heap.size w wr → wr.cell? ⟨g, 0, none⟩ = some (.int .i64 i) ∧ g < wr.heap.size) := fun wr hb => ⟨(hb.cell (p := ⟨g, 0, none⟩) hlt).trans hg, Nat.lt_of_lt_of_le hlt hb.size⟩
  obtain ⟨n, hn⟩ : ∃ n, n = l.length := ⟨_, rfl⟩
  have HN : Hid (n = l.length) := hn
  rw [← hn] at HR hc1 ⊢
  have hni : (n : Int) ≤ 9223372036854775807 := by omega
  obtain ⟨R, hR⟩ : ∃ R, R = idxL (fun x : Lk => decide (x.iface = i)) l := ⟨_, rfl⟩
  have HRD : Hid (R = idxL (fun x : Lk => decide (x.iface = i)) l) := hR
  rw [← hR]
  clear hl hn hR hg hlt
  go_enter Try.func69, Try.ntmps69
  go_wp2_with fail
  go_loopw [8] (fun q wr => ∃ k : Nat, k ≤ n ∧ q = .int .i64 k ∧ Below w.heap.size w wr ∧ Hid (∀ j (hj : j < l.length), j < k → (fun x : Lk => decide (x.iface = i)) l[j] = false)) (fun q _ => n - (intOf q).toNat)
  case atStart => exact ⟨0, by omega, rfl, Below.refl _ _, fun j hj h => absurd h (Nat.not_lt_zero _)⟩
  case round =>
    obtain ⟨k, hk, rfl, hB, HI⟩ := hrel
    by_cases hlt : k < n
    · have hkz : k < l.length := by rw [← HN.out]; exact hlt
      obtain ⟨g1, i1, rfl, hg1, a0, a1⟩ := HasLks.cell (HR.out _ hB) k hkz
      obtain ⟨hgc, hgl⟩ := HG.out _ hB
      have cc := fun W => of1_any l[k] i g W
      have HV1 : Hid ((fun x : Lk => decide (x.iface = i)) l[k] = true → R = (k : Int)) := fun h => by rw [HRD.out]; exact idx_at hkz HI.out h
      have HV2 : Hid ((fun x : Lk => decide (x.iface = i)) l[k] = false → ∀ j (hj : j < l.length), j < k + 1 → (fun x : Lk => decide (x.iface = i)) l[j] = false) := fun h j hj hjk => by
        by_cases e : j = k
        · subst e; exact h
        · exact HI.out j hj (by omega)
      have hki : (k : Int) < (n : Int) := by omega
      have cc2 := cc wr hgc hgl
      clear cc HI hgc hgl hg1
      simp only at HV1 HV2
      generalize hD : decide (l[k].iface = i) = D at *
      generalize l[k].iface = ra at *
      generalize l[k].peer = rb at *
      clear hD
      go_wp2_with fail
      go_at_call 89; refine cc2.mono ?_; rintro e w2 ⟨rfl, hb2⟩
      have hB2 := below2 hB hb2
      cases D
      · have HV := HV2.out rfl
        have HV3 : Hid (∀ j (hj : j < l.length), j < k + 1 → (fun x : Lk => decide (x.iface = i)) l[j] = false) := HV
        clear HV HV1 HV2 cc2
        go_wp2_with fail
        go_roundw
        case rel => exact ⟨k + 1, by omega, by go_num, hB2, HV3⟩
        case measure => simp [intOf]; omega
      · have HV : Hid (R = (k : Int)) := HV1.out rfl
        clear HV1 HV2 cc2
        go_wp2_with fail
        go_ret
        exact ⟨by have h := HV.out; subst h; rfl, hB2⟩
    · have hkn : decide ((k : Int) < (n : Int)) = false := decide_eq_false (by omega)
      have HV : Hid (R = -1) := by show _ = _; rw [HRD.out]; exact idx_none (fun j hj => HI.out j hj (by have := HN.out; omega))
      clear HI
      go_wp2_with fail
      go_ret
      exact ⟨by have h := HV.out; subst h; rfl, hB⟩
set_option maxHeartbeats 4000000 in
set_option maxRecDepth 20000 in
theorem idxPut_any (l : List Lk) (v : Value) (i : Int) (g : Nat) (w : World) (hl : HasLks w v l) (hg : w.cell? ⟨g, 0, none⟩ = some (.int .i64 i)) (hlt : g < w.heap.size) :
    Calls Try.prog 69 #[v, .func (.func 70) #[] #[.pointer (some ⟨g, 0, none⟩)]] w fun e w' => e = .returned (.int .i64 (idxL (fun x : Lk => decide (i < x.iface)) l)) ∧ Below w.heap.size w w' := by
  obtain ⟨o, c, rfl, hc1, hc2⟩ := HasRow.slice hl
  have HR : Hid (∀ wr : World, Below w.heap.size w wr → HasLks wr (.slice o l.length c) l) := fun wr hb => hl.keep hb
  have HG : Hid (∀ wr : World, Below w.heap.size w wr → wr.cell? ⟨g, 0, none⟩ = some (.int .i64 i) ∧ g < wr.heap.size) := fun wr hb => ⟨(hb.cell (p := ⟨g, 0, none⟩) hlt).trans hg, Nat.lt_of_lt_of_le hlt hb.size⟩
  obtain ⟨n, hn⟩ : ∃ n, n = l.length := ⟨_, rfl⟩
  have HN : Hid (n = l.length) := hn
  rw [← hn] at HR hc1 ⊢
  have hni : (n : Int) ≤ 9223372036854775807 := by omega
  obtain ⟨R, hR⟩ : ∃ R, R = idxL (fun x : Lk => decide (i < x.iface)) l := ⟨_, rfl⟩
  have HRD : Hid (R = idxL (fun x : Lk => decide (i < x.iface)) l) := hR
  rw [← hR]
  clear hl hn hR hg hlt
  go_enter Try.func69, Try.ntmps69
  go_wp2_with fail
  go_loopw [8] (fun q wr => ∃ k : Nat, k ≤ n ∧ q = .int .i64 k ∧ Below w.heap.size w wr ∧ Hid (∀ j (hj : j < l.length), j < k → (fun x : Lk => decide (i < x.iface)) l[j] = false)) (fun q _ => n - (intOf q).toNat)
  case atStart => exact ⟨0, by omega, rfl, Below.refl _ _, fun j hj h => absurd h (Nat.not_lt_zero _)⟩
  case round =>
    obtain ⟨k, hk, rfl, hB, HI⟩ := hrel
    by_cases hlt : k < n
    · have hkz : k < l.length := by rw [← HN.out]; exact hlt
      obtain ⟨g1, i1, rfl, hg1, a0, a1⟩ := HasLks.cell (HR.out _ hB) k hkz
      obtain ⟨hgc, hgl⟩ := HG.out _ hB
      have cc := fun W => put1_any l[k] i g W
      have HV1 : Hid ((fun x : Lk => decide (i < x.iface)) l[k] = true → R = (k : Int)) := fun h => by rw [HRD.out]; exact idx_at hkz HI.out h
      have HV2 : Hid ((fun x : Lk => decide (i < x.iface)) l[k] = false → ∀ j (hj : j < l.length), j < k + 1 → (fun x : Lk => decide (i < x.iface)) l[j] = false) := fun h j hj hjk => by
        by_cases e : j = k
        · subst e; exact h
        · exact HI.out j hj (by omega)
      have hki : (k : Int) < (n : Int) := by omega
      have cc2 := cc wr hgc hgl
      clear cc HI hgc hgl hg1
      simp only at HV1 HV2
      generalize hD : decide (i < l[k].iface) = D at *
      generalize l[k].iface = ra at *
      generalize l[k].peer = rb at *
      clear hD
      go_wp2_with fail
      go_at_call 70; refine cc2.mono ?_; rintro e w2 ⟨rfl, hb2⟩
      have hB2 := below2 hB hb2
      cases D
      · have HV := HV2.out rfl
        have HV3 : Hid (∀ j (hj : j < l.length), j < k + 1 → (fun x : Lk => decide (i < x.iface)) l[j] = false) := HV
        clear HV HV1 HV2 cc2
        go_wp2_with fail
        go_roundw
        case rel => exact ⟨k + 1, by omega, by go_num, hB2, HV3⟩
        case measure => simp [intOf]; omega
      · have HV : Hid (R = (k : Int)) := HV1.out rfl
        clear HV1 HV2 cc2
        go_wp2_with fail
        go_ret
        exact ⟨by have h := HV.out; subst h; rfl, hB2⟩
    · have hkn : decide ((k : Int) < (n : Int)) = false := decide_eq_false (by omega)
      have HV : Hid (R = -1) := by show _ = _; rw [HRD.out]; exact idx_none (fun j hj => HI.out j hj (by have := HN.out; omega))
      clear HI
      go_wp2_with fail
      go_ret
      exact ⟨by have h := HV.out; subst h; rfl, hB⟩
end Go.Proofs.Ytkjhnefbcnnjlaa.Lk
namespace Go.Proofs.Ytkjhnefbcnnjlaa.Lk
open Go.RowKit
open Go.Proofs.Ytkjhnefbcnnjlaa.Addr (RowAt below2 below_new RowAt.cell RowAt.below RowAt.new RowAt.alloc Bl bl_ne wp_region_bl bl_call)
def prevR (l : List Lk) (k : Nat) : Option Int := match k with
  | 0 => none
  | j + 1 => (l[j]?).map (·.iface)
theorem rise_zero (l : List Lk) (h : 0 < l.length) : rise (prevR l 0) (l.drop 0) = (okK l[0] && rise (prevR l 1) (l.drop 1)) := by
  match l, h with
  | s :: t, _ => rfl
theorem rise_succ (l : List Lk) (j : Nat) (h : j + 1 < l.length) : rise (prevR l (j + 1)) (l.drop (j + 1)) = (okK l[j + 1] && !decide (l[j + 1].iface ≤ l[j].iface) && rise (prevR l (j + 2)) (l.drop (j + 2))) := by
  have e1 : prevR l (j + 1) = some l[j].iface := by show (l[j]?).map (·.iface) = _; rw [List.getElem?_eq_getElem (by omega)]; rfl
  have e2 : prevR l (j + 2) = some l[j + 1].iface := by show (l[j + 1]?).map (·.iface) = _; rw [List.getElem?_eq_getElem (by omega)]; rfl
  have e3 : l.drop (j + 1) = l[j + 1] :: l.drop (j + 2) := List.drop_eq_getElem_cons h
  have e4 : decide (l[j].iface < l[j + 1].iface) = !decide (l[j + 1].iface ≤ l[j].iface) := by
    rw [Bool.eq_iff_iff]; simp
  rw [e1, e2, e3, rise, e4]
theorem round_bad {l : List Lk} {k : Nat} (hk : k < l.length) {R : Int} (HD : R = if rise none l then 0 else 2) (HG : rise none l = rise (prevR l k) (l.drop k)) (h : okK l[k] = false) : R = 2 := by
  rw [HD, HG]
  cases k with
  | zero => rw [rise_zero l hk, h]; rfl
  | succ j => rw [rise_succ l j hk, h]; rfl
theorem round_first {l : List Lk} {k : Nat} (hk : k < l.length) (HG : rise none l = rise (prevR l k) (l.drop k)) (h : okK l[k] = true) (h0 : k = 0) : rise none l = rise (prevR l 1) (l.drop 1) := by
  subst h0
  rw [HG, rise_zero l hk, h, Bool.true_and]
theorem round_next {l : List Lk} {k j : Nat} (hk : k < l.length) {R : Int} (HD : R = if rise none l then 0 else 2) (HG : rise none l = rise (prevR l k) (l.drop k)) (h : okK l[k] = true) (h0 : k = j + 1) (hj : j < l.length) :
    (decide (l[k].iface ≤ l[j].iface) = false → rise none l = rise (prevR l (k + 1)) (l.drop (k + 1))) ∧ (decide (l[k].iface ≤ l[j].iface) = true → R = 2) := by
  subst h0
  constructor
  · intro hd
    rw [HG, rise_succ l j hk, h, hd]
    rfl
  · intro hd
    rw [HD, HG, rise_succ l j hk, h, hd]
    rfl
theorem below_drewN {B : Nat} {w0 w : World} (h : Below B w0 w) (n : Nat) : Below B w0 (w.drewN n) := h.trans ⟨rfl, rfl, rfl, Nat.le_refl _, fun _ _ => rfl⟩
set_option maxHeartbeats 4000000 in
set_option maxRecDepth 20000 in
theorem check_any (l : List Lk) (v : Value) (w : World) (h : HasLks w v l) :
    Calls Try.prog 35 #[v] w fun e w' => e = .returned (.int .i64 (checkL l)) ∧ Below w.heap.size w w' := by
  obtain ⟨o, c, rfl, hc1, hc2⟩ := HasRow.slice h
  have HR : Hid (∀ wr : World, Below w.heap.size w wr → HasLks wr (.slice o l.length c) l) := fun wr hb => h.keep hb
  obtain ⟨n, hn⟩ : ∃ n, n = l.length := ⟨_, rfl⟩
  have HN : Hid (n = l.length) := hn
  rw [← hn] at HR hc1 ⊢
  have HC : Hid (checkL l = if (decide (n ≤ 32) && rise none l) then 0 else 2) := by show _ = _; unfold checkL okL; rw [← hn]
  generalize checkL l = R at HC ⊢
  clear h hn
  by_cases h32 : 32 < n
  · have HV : Hid (R = 2) := by show _ = _; rw [HC.out, decide_eq_false (by omega)]; rfl
    have q1 : decide ((32 : Int) < (n : Int)) = true := decide_eq_true (by omega)
    have q2 : decide (32 < n) = true := decide_eq_true h32
    clear HC HR
    go_enter Try.func35, Try.ntmps35
    go_wp2_with fail
    go_ret
    exact ⟨by rw [HV.out]; rfl, Below.refl _ _⟩
  · have HD : Hid (R = if rise none l then 0 else 2) := by show _ = _; rw [HC.out, decide_eq_true (by omega)]; rfl
    have hni : (n : Int) ≤ 32 := by omega
    have q1 : decide ((32 : Int) < (n : Int)) = false := decide_eq_false (by omega)
    have q2 : decide (32 < n) = false := decide_eq_false h32
    clear HC h32
    go_enter Try.func35, Try.ntmps35
    go_wp2_with fail
    go_loopw [10] (fun i wr => ∃ k : Nat, k ≤ n ∧ i = .int .i64 k ∧ Below w.heap.size w wr ∧ Hid (rise none l = rise (prevR l k) (l.drop k))) (fun i _ => n - (intOf i).toNat)
    case atStart => exact ⟨0, by omega, rfl, Below.refl _ _, (rfl : rise none l = _)⟩
    case round =>
      obtain ⟨k, hk, rfl, hB, HG⟩ := hrel
      have hh := HR.out _ hB
      by_cases hlt : k < n
      · have hkz : k < l.length := by rw [← HN.out]; exact hlt
        obtain ⟨g1, i1, rfl, hg1, a0, a1⟩ := HasLks.cell hh k hkz
        have cr : ∀ W : World, Calls Try.prog 58 #[.agg #[.int .i64 l[k].iface, .int .i64 l[k].peer]] W fun e w' => e = .returned (.bool (okK l[k])) ∧ Below W.heap.size W w' := fun W => right_any l[k] W
        have hki : (k : Int) < (n : Int) := by omega
        have HB1 : Hid (okK l[k] = false → R = 2) := fun h => round_bad hkz HD.out HG.out h
        have HB2 : Hid (okK l[k] = true → k = 0 → rise none l = rise (prevR l 1) (l.drop 1)) := fun h h0 => round_first hkz HG.out h h0
        have HB3 : Hid (okK l[k] = true → ∀ (j : Nat) (hj : j < l.length), k = j + 1 → (decide (l[k].iface ≤ l[j].iface) = false → rise none l = rise (prevR l (k + 1)) (l.drop (k + 1))) ∧ (decide (l[k].iface ≤ l[j].iface) = true → R = 2)) := fun h j hj h0 => round_next hkz HD.out HG.out h h0 hj
        generalize okK l[k] = B1 at cr HB1 HB2 HB3
        generalize l[k].iface = ra at a0 cr HB3
        clear HG
        generalize l[k].peer = rb at a1 cr
        go_upto_region 6 with fail
        obtain ⟨X, hX⟩ : ∃ X, X = wr.alloc (.cells #[.int .i64 ra, .int .i64 rb] 75) := ⟨_, rfl⟩
        have hbX : Below wr.heap.size wr X := by rw [hX]; exact below_new (Below.refl _ _) _
        have rx : RowAt X wr.heap.size [.int .i64 ra, .int .i64 rb] 75 := by rw [hX]; exact RowAt.new _ _ _
        rw [← hX]
        have hBX := below2 hB hbX
        have hhX := hh.keep hbX
        clear hX
        obtain ⟨gs, hgs⟩ : ∃ g, g = wr.heap.size := ⟨_, rfl⟩
        rw [← hgs] at rx ⊢
        clear hgs a0 a1 hg1
        have m0 : ∀ p : Bl X, p.W.cell? ⟨gs, 0, none⟩ = some (.int .i64 ra) := fun p => (rx.below p.h).cell 0
        have m1 : ∀ p : Bl X, p.W.cell? ⟨gs, 1, none⟩ = some (.int .i64 rb) := fun p => (rx.below p.h).cell 1
        haveI := bl_ne X
        cases B1
        · have HV : Hid (R = 2) := HB1.out rfl
          clear HB1 HB2 HB3 HD hh hhX
          refine wp_region_bl (by kernel_rfl) (by kernel_rfl) ?_
          repeat (go_big_quiet_step (first | (go_at_call 58; with_reducible exact bl_call (cr _))))
          refine wpQuiet_nil ?_
          intro wq hw'
          obtain ⟨⟨wz, hq⟩, hw2⟩ := hw'
          subst hw2
          have hW := below2 hBX hq
          go_wp2_with fail
          go_ret
          exact ⟨by rw [HV.out]; rfl, hW⟩
        · by_cases hk0 : k = 0
          · have HS1 : Hid (rise none l = rise (prevR l 1) (l.drop 1)) := HB2.out rfl hk0
            clear HB1 HB2 HB3 hh hhX
            have hz1 : decide ((0 : Int) < (k : Int)) = false := decide_eq_false (by omega)
            have hz2 : decide (0 < k) = false := decide_eq_false (by omega)
            have HK : Hid (k = 0) := hk0
            clear hk0
            refine wp_region_bl (by kernel_rfl) (by kernel_rfl) ?_
            repeat (go_big_quiet_step (first | (go_at_call 58; with_reducible exact bl_call (cr _))))
            refine wpQuiet_nil ?_
            intro wq hw'
            obtain ⟨⟨wz, hq⟩, hw2⟩ := hw'
            subst hw2
            have hW := below2 hBX hq
            go_wp2_with fail
            go_roundw
            case rel => exact ⟨k + 1, by omega, by go_num, hW, by rw [HK.out]; exact HS1⟩
            case measure => simp [intOf]; omega
          · obtain ⟨j, hj⟩ : ∃ j, k = j + 1 := ⟨k - 1, by omega⟩
            have hj2 : j < l.length := by omega
            obtain ⟨g2, i2, e12, hg2, b0, _⟩ := HasLks.cell hhX j hj2
            injection e12 with e12
            injection e12 with e1 e2
            subst e1 e2
            obtain ⟨HN1, HN2⟩ := HB3.out rfl j hj2 hj
            have HN1 : Hid (decide (ra ≤ l[j].iface) = false → rise none l = rise (prevR l (k + 1)) (l.drop (k + 1))) := HN1
            have HN2 : Hid (decide (ra ≤ l[j].iface) = true → R = 2) := HN2
            have u0 : ∀ p : Bl X, p.W.cell? ⟨g1, i1 + j * 2, none⟩ = some (.int .i64 l[j].iface) := fun p => (p.h.cell (p := ⟨g1, i1 + j * 2, none⟩) hg2).trans b0
            clear HB1 HB2 HB3 hh hhX b0 hg2
            generalize l[j].iface = pr at u0 HN1 HN2
            have e1 : (k : Int) - 1 = (j : Int) := by omega
            have e2 : IntKind.i64.wrap (j : Int) = (j : Int) := by rw [IntKind.wrap_i64]; omega
            have hkp : decide ((0 : Int) < (k : Int)) = true := decide_eq_true (by omega)
            have hkp' : decide (0 < k) = true := decide_eq_true (by omega)
            have hjn : (j : Int) < (n : Int) := by omega
            clear hj hk0
            cases B2 : decide (ra ≤ pr)
            · have HS1 : Hid (rise none l = rise (prevR l (k + 1)) (l.drop (k + 1))) := HN1.out B2
              clear HN1 HN2
              refine wp_region_bl (by kernel_rfl) (by kernel_rfl) ?_
              repeat (go_big_quiet_step (first | (go_at_call 58; with_reducible exact bl_call (cr _))))
              refine wpQuiet_nil ?_
              intro wq hw'
              obtain ⟨⟨wz, hq⟩, hw2⟩ := hw'
              subst hw2
              have hW := below2 hBX hq
              go_wp2_with fail
              go_roundw
              case rel => exact ⟨k + 1, by omega, by go_num, hW, HS1⟩
              case measure => simp [intOf]; omega
            · have HV : Hid (R = 2) := HN2.out B2
              clear HN1 HN2 HD
              refine wp_region_bl (by kernel_rfl) (by kernel_rfl) ?_
              repeat (go_big_quiet_step (first | (go_at_call 58; with_reducible exact bl_call (cr _))))
              refine wpQuiet_nil ?_
              intro wq hw'
              obtain ⟨⟨wz, hq⟩, hw2⟩ := hw'
              subst hw2
              have hW := below2 hBX hq
              go_wp2_with fail
              go_ret
              exact ⟨by rw [HV.out]; rfl, hW⟩
      · obtain rfl : k = n := by omega
        have HV : Hid (R = 0) := by
          show _ = _
          rw [HD.out, HG.out, List.drop_of_length_le (by rw [← HN.out]; exact Nat.le_refl _)]
          unfold prevR
          split <;> rfl
        clear hh HG HD
        go_wp2
        go_ret
        exact ⟨by rw [HV.out]; rfl, hB⟩
end Go.Proofs.Ytkjhnefbcnnjlaa.Lk
namespace Go.Proofs.Ytkjhnefbcnnjlaa.Lk
open Go.RowKit
theorem find_idx (l : List Lk) (i : Int) : (findL l i = none ∧ idxL (fun x : Lk => decide (x.iface = i)) l = -1) ∨ ∃ (k : Nat) (h : k < l.length), findL l i = some l[k] ∧ idxL (fun x : Lk => decide (x.iface = i)) l = (k : Int) := by
  induction l with
  | nil => exact .inl ⟨rfl, rfl⟩
  | cons s l ih =>
    by_cases hs : s.iface = i
    · right
      refine ⟨0, by simp, ?_, ?_⟩
      · unfold findL; simp [hs]
      · unfold idxL; simp [List.findIdx?_cons, hs]
    · rcases ih with ⟨h1, h2⟩ | ⟨k, hk, h1, h2⟩
      · left
        refine ⟨by unfold findL at h1 ⊢; rw [List.find?_cons_of_neg (by simpa using hs)]; exact h1, ?_⟩
        unfold idxL at h2 ⊢
        rw [List.findIdx?_cons]
        simp only [hs, decide_false, Bool.false_eq_true, if_false]
        cases hf : l.findIdx? (fun x : Lk => decide (x.iface = i)) with
        | none => rfl
        | some k => rw [hf] at h2; simp only at h2; omega
      · right
        refine ⟨k + 1, by simpa using hk, by unfold findL at h1 ⊢; rw [List.find?_cons_of_neg (by simpa using hs)]; exact h1, ?_⟩
        unfold idxL at h2 ⊢
        rw [List.findIdx?_cons]
        simp only [hs, decide_false, Bool.false_eq_true, if_false]
        cases hf : l.findIdx? (fun x : Lk => decide (x.iface = i)) with
        | none => rw [hf] at h2; simp only at h2; omega
        | some j => rw [hf] at h2; simp only [Option.map_some] at h2 ⊢; omega
end Go.Proofs.Ytkjhnefbcnnjlaa.Lk
namespace Go.Proofs.Ytkjhnefbcnnjlaa.Lk
open Go.RowKit
open Go.Proofs.Ytkjhnefbcnnjlaa.Addr (below2 RowAt.below)
attribute [-go_sem] Builtin.append_
theorem info_lk : (Try.prog.info? 75).map (fun i => (i.zero, i.size, i.bytes)) = some (some (.agg #[.int .i64 0, .int .i64 0]), 2, 16) := by kernel_rfl
theorem info_parts {e sz by' : Nat} {z : Value} (h : (Try.prog.info? e).map (fun i => (i.zero, i.size, i.bytes)) = some (some z, sz, by')) : ∃ i, Try.prog.info? e = some i ∧ i.zero = some z ∧ i.size = sz ∧ i.bytes = by' := by
  cases hi : Try.prog.info? e with
  | none => rw [hi] at h; cases h
  | some i =>
    rw [hi] at h
    simp only [Option.map_some, Option.some.injEq, Prod.mk.injEq] at h
    exact ⟨i, rfl, h.1, h.2.1, h.2.2⟩
def Dist (u v : Value) : Prop := ∀ k, u.ownBlock = some k → v.ownBlock ≠ some k
/-- three rows of one call's own, apart -/
structure Own3 (w W : World) (u v t : Value) (a b c : List Lk) : Prop where
  ou : W.ownsRow w.heap.size 75 2 u a.length (lkCs a)
  ov : W.ownsRow w.heap.size 75 2 v b.length (lkCs b)
  ot : W.ownsRow w.heap.size 75 2 t c.length (lkCs c)
  uv : Dist u v
  vt : Dist v t
  tu : Dist t u
  bl : Below w.heap.size w W
theorem Dist.symm {u v : Value} (h : Dist u v) : Dist v u := fun k hk hc => h k hc hk
theorem own_below {W W' : World} {m e size k : Nat} {v : Value} {xs : List Value} (h : W.ownsRow m e size v k xs) (hb : Below W.heap.size W W') : W'.ownsRow m e size v k xs := by
  refine ⟨h.1, ?_⟩
  rcases h.2 with h0 | ⟨g, cap, cur, e1, hg, hgb, rest⟩
  · exact .inl h0
  · exact .inr ⟨g, cap, cur, e1, hg, by rw [hb.block g (Array.getElem?_eq_some_iff.1 hgb).1]; exact hgb, rest⟩
theorem Own3.below {w W W' : World} {u v t : Value} {a b c : List Lk} (h : Own3 w W u v t a b c) (hb : Below W.heap.size W W') : Own3 w W' u v t a b c :=
  ⟨own_below h.ou hb, own_below h.ov hb, own_below h.ot hb, h.uv, h.vt, h.tu, below2 h.bl hb⟩
def ofL (l : List Lk) (i : Int) : List Lk := l.filter (fun s => decide (s.iface = i))
end Go.Proofs.Ytkjhnefbcnnjlaa.Lk
