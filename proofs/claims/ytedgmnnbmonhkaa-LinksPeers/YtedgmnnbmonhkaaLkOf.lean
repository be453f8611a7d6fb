/- Functions that tell whether a link is of an interface, or behind one; the first link of which one tells so. -/
import Derived.Test.YtedgmnnbmonhkaaLkRight
set_option linter.unusedVariables false
namespace Go.Proofs.Ytedgmnnbmonhkaa.Lk
open Go.RowKit
open Go.Proofs.Ytedgmnnbmonhkaa.Addr (RowAt below2 below_drew below_new bset RowAt.lt RowAt.cell RowAt.frozen RowAt.below RowAt.drew RowAt.new RowAt.alloc cells2 Bl bl_ne wp_region_bl bl_call bl_same)
theorem of_any (i : Int) (w : World) : Calls Try.prog 23 #[.int .i64 i] w fun e w' => e = .returned (.func (.func 31) #[] #[.pointer (some ⟨w.heap.size, 0, none⟩)]) ∧ w' = w.alloc (.cells #[.int .i64 i] 3) := by
  go_enter Try.func23, Try.ntmps23
  go_wp2_with fail
  go_ret
  exact ⟨rfl, rfl⟩
/-- where the first element is that p holds of -/
def idxL {α : Type} (p : α → Bool) (l : List α) : Int := match l.findIdx? p with
  | some k => (k : Int)
  | none => -1
theorem idx_at {α : Type} {p : α → Bool} {l : List α} {k : Nat} (hk : k < l.length) (h : ∀ j (hj : j < l.length), j < k → p l[j] = false) (hp : p l[k] = true) : idxL p l = (k : Int) := by
  unfold idxL
  rw [(List.findIdx?_eq_some_iff_getElem (xs := l) (p := p) (i := k)).2 ⟨hk, hp, fun j hj => by rw [h j (by omega) hj]; simp⟩]
theorem idx_none {α : Type} {p : α → Bool} {l : List α} (h : ∀ j (hj : j < l.length), p l[j] = false) : idxL p l = -1 := by
  unfold idxL
  rw [List.findIdx?_eq_none_iff.2 (fun x hx => by obtain ⟨j, hj, rfl⟩ := List.getElem_of_mem hx; exact h j hj)]
set_option maxHeartbeats 2000000 in
theorem of1_any (x : Lk) (i : Int) (g : Nat) (w : World) (hg : w.cell? ⟨g, 0, none⟩ = some (.int .i64 i)) (hl : g < w.heap.size) : Calls Try.prog 31 #[.agg #[.int .i64 x.iface, .int .i64 x.peer], .pointer (some ⟨g, 0, none⟩)] w fun e w' => e = .returned (.bool (decide (x.iface = i))) ∧ Below w.heap.size w w' := by
  obtain ⟨a, b⟩ := x
  simp only
  obtain ⟨X, hX⟩ : ∃ X, X = w.alloc (.cells #[.int .i64 a, .int .i64 b] 24) := ⟨_, rfl⟩
  have hB : Below w.heap.size w X := by rw [hX]; exact below_new (Below.refl _ _) _
  have r0 : RowAt X w.heap.size [.int .i64 a, .int .i64 b] 24 := by rw [hX]; exact RowAt.new _ _ _
  have hg2 : X.cell? ⟨g, 0, none⟩ = some (.int .i64 i) := (hB.cell (p := ⟨g, 0, none⟩) hl).trans hg
  obtain ⟨x0, x1, xf⟩ := cells2 r0
  go_enter Try.func31, Try.ntmps31
  go_upto_region 1 with fail
  rw [← hX]
  clear hX r0
  go_wp2_with fail
  have hB2 := hB
  go_ret
  exact ⟨by first | rfl | simp | (congr 2; rw [Bool.eq_iff_iff]; simp), hB2⟩
set_option maxHeartbeats 2000000 in
theorem put1_any (x : Lk) (i : Int) (g : Nat) (w : World) (hg : w.cell? ⟨g, 0, none⟩ = some (.int .i64 i)) (hl : g < w.heap.size) : Calls Try.prog 25 #[.agg #[.int .i64 x.iface, .int .i64 x.peer], .pointer (some ⟨g, 0, none⟩)] w fun e w' => e = .returned (.bool (decide (i < x.iface))) ∧ Below w.heap.size w w' := by
  obtain ⟨a, b⟩ := x
  simp only
  obtain ⟨X, hX⟩ : ∃ X, X = w.alloc (.cells #[.int .i64 a, .int .i64 b] 24) := ⟨_, rfl⟩
  have hB : Below w.heap.size w X := by rw [hX]; exact below_new (Below.refl _ _) _
  have r0 : RowAt X w.heap.size [.int .i64 a, .int .i64 b] 24 := by rw [hX]; exact RowAt.new _ _ _
  have hg2 : X.cell? ⟨g, 0, none⟩ = some (.int .i64 i) := (hB.cell (p := ⟨g, 0, none⟩) hl).trans hg
  obtain ⟨x0, x1, xf⟩ := cells2 r0
  go_enter Try.func25, Try.ntmps25
  go_upto_region 1 with fail
  rw [← hX]
  clear hX r0
  go_wp2_with fail
  have hB2 := hB
  go_ret
  exact ⟨by first | rfl | simp | (congr 2; rw [Bool.eq_iff_iff]; simp), hB2⟩
set_option maxHeartbeats 4000000 in
set_option maxRecDepth 20000 in
theorem idxOf_any (l : List Lk) (v : Value) (i : Int) (g : Nat) (w : World) (hl : HasLks w v l) (hg : w.cell? ⟨g, 0, none⟩ = some (.int .i64 i)) (hlt : g < w.heap.size) :
    Calls Try.prog 24 #[v, .func (.func 31) #[] #[.pointer (some ⟨g, 0, none⟩)]] w fun e w' => e = .returned (.int .i64 (idxL (fun x : Lk => decide (x.iface = i)) l)) ∧ Below w.heap.size w w' := by
  obtain ⟨o, c, rfl, hc1, hc2⟩ := HasRow.slice hl
  have HR : Hid (∀ wr : World, Below w.heap.size w wr → HasLks wr (.slice o l.length c) l) := fun wr hb => hl.keep hb
  have HG : Hid (∀ wr : World, Below w.heap.size w wr → wr.cell? ⟨g, 0, none⟩ = some (.int .i64 i) ∧ g < wr.heap.size) := fun wr hb => ⟨(hb.cell (p := ⟨g, 0, none⟩) hlt).trans hg, Nat.lt_of_lt_of_le hlt hb.size⟩
  obtain ⟨n, hn⟩ : ∃ n, n = l.length := ⟨_, rfl⟩
  have HN : Hid (n = l.length) := hn
  rw [← hn] at HR hc1 ⊢
  have hni : (n : Int) ≤ 9223372036854775807 := by omega
  obtain ⟨R, hR⟩ : ∃ R, R = idxL (fun x : Lk => decide (x.iface = i)) l := ⟨_, rfl⟩
  have HRD : Hid (R = idxL (fun x : Lk => decide (x.iface = i)) l) := hR
  rw [← hR]
  clear hl hn hR hg hlt
  go_enter Try.func24, Try.ntmps24
  go_wp2_with fail
  go_loopw [8] (fun q wr => ∃ k : Nat, k ≤ n ∧ q = .int .i64 k ∧ Below w.heap.size w wr ∧ Hid (∀ j (hj : j < l.length), j < k → (fun x : Lk => decide (x.iface = i)) l[j] = false)) (fun q _ => n - (intOf q).toNat)
  case atStart => exact ⟨0, by omega, rfl, Below.refl _ _, fun j hj h => absurd h (Nat.not_lt_zero _)⟩
  case round =>
    obtain ⟨k, hk, rfl, hB, HI⟩ := hrel
    by_cases hlt : k < n
    · have hkz : k < l.length := by rw [← HN.out]; exact hlt
      obtain ⟨g1, i1, rfl, hg1, a0, a1⟩ := HasLks.cell (HR.out _ hB) k hkz
      obtain ⟨hgc, hgl⟩ := HG.out _ hB
      have cc := fun W => of1_any l[k] i g W
      have HV1 : Hid ((fun x : Lk => decide (x.iface = i)) l[k] = true → R = (k : Int)) := fun h => by rw [HRD.out]; exact idx_at hkz HI.out h
      have HV2 : Hid ((fun x : Lk => decide (x.iface = i)) l[k] = false → ∀ j (hj : j < l.length), j < k + 1 → (fun x : Lk => decide (x.iface = i)) l[j] = false) := fun h j hj hjk => by
        by_cases e : j = k
        · subst e; exact h
        · exact HI.out j hj (by omega)
      have hki : (k : Int) < (n : Int) := by omega
      have cc2 := cc wr hgc hgl
      clear cc HI hgc hgl hg1
      simp only at HV1 HV2
      generalize hD : decide (l[k].iface = i) = D at *
      generalize l[k].iface = ra at *
      generalize l[k].peer = rb at *
      clear hD
      go_wp2_with fail
      go_at_call 31; refine cc2.mono ?_; rintro e w2 ⟨rfl, hb2⟩
      have hB2 := below2 hB hb2
      cases D
      · have HV := HV2.out rfl
        have HV3 : Hid (∀ j (hj : j < l.length), j < k + 1 → (fun x : Lk => decide (x.iface = i)) l[j] = false) := HV
        clear HV HV1 HV2 cc2
        go_wp2_with fail
        go_roundw
        case rel => exact ⟨k + 1, by omega, by go_num, hB2, HV3⟩
        case measure => simp [intOf]; omega
      · have HV : Hid (R = (k : Int)) := HV1.out rfl
        clear HV1 HV2 cc2
        go_wp2_with fail
        go_ret
        exact ⟨by have h := HV.out; subst h; rfl, hB2⟩
    · have hkn : decide ((k : Int) < (n : Int)) = false := decide_eq_false (by omega)
      have HV : Hid (R = -1) := by show _ = _; rw [HRD.out]; exact idx_none (fun j hj => HI.out j hj (by have := HN.out; omega))
      clear HI
      go_wp2_with fail
      go_ret
      exact ⟨by have h := HV.out; subst h; rfl, hB⟩
set_option maxHeartbeats 4000000 in
set_option maxRecDepth 20000 in
theorem idxPut_any (l : List Lk) (v : Value) (i : Int) (g : Nat) (w : World) (hl : HasLks w v l) (hg : w.cell? ⟨g, 0, none⟩ = some (.int .i64 i)) (hlt : g < w.heap.size) :
    Calls Try.prog 24 #[v, .func (.func 25) #[] #[.pointer (some ⟨g, 0, none⟩)]] w fun e w' => e = .returned (.int .i64 (idxL (fun x : Lk => decide (i < x.iface)) l)) ∧ Below w.heap.size w w' := by
  obtain ⟨o, c, rfl, hc1, hc2⟩ := HasRow.slice hl
  have HR : Hid (∀ wr : World, Below w.heap.size w wr → HasLks wr (.slice o l.length c) l) := fun wr hb => hl.keep hb
  have HG : Hid (∀ wr : World, Below w.heap.size w wr → wr.cell? ⟨g, 0, none⟩ = some (.int .i64 i) ∧ g < wr.heap.size) := fun wr hb => ⟨(hb.cell (p := ⟨g, 0, none⟩) hlt).trans hg, Nat.lt_of_lt_of_le hlt hb.size⟩
  obtain ⟨n, hn⟩ : ∃ n, n = l.length := ⟨_, rfl⟩
  have HN : Hid (n = l.length) := hn
  rw [← hn] at HR hc1 ⊢
  have hni : (n : Int) ≤ 9223372036854775807 := by omega
  obtain ⟨R, hR⟩ : ∃ R, R = idxL (fun x : Lk => decide (i < x.iface)) l := ⟨_, rfl⟩
  have HRD : Hid (R = idxL (fun x : Lk => decide (i < x.iface)) l) := hR
  rw [← hR]
  clear hl hn hR hg hlt
  go_enter Try.func24, Try.ntmps24
  go_wp2_with fail
  go_loopw [8] (fun q wr => ∃ k : Nat, k ≤ n ∧ q = .int .i64 k ∧ Below w.heap.size w wr ∧ Hid (∀ j (hj : j < l.length), j < k → (fun x : Lk => decide (i < x.iface)) l[j] = false)) (fun q _ => n - (intOf q).toNat)
  case atStart => exact ⟨0, by omega, rfl, Below.refl _ _, fun j hj h => absurd h (Nat.not_lt_zero _)⟩
  case round =>
    obtain ⟨k, hk, rfl, hB, HI⟩ := hrel
    by_cases hlt : k < n
    · have hkz : k < l.length := by rw [← HN.out]; exact hlt
      obtain ⟨g1, i1, rfl, hg1, a0, a1⟩ := HasLks.cell (HR.out _ hB) k hkz
      obtain ⟨hgc, hgl⟩ := HG.out _ hB
      have cc := fun W => put1_any l[k] i g W
      have HV1 : Hid ((fun x : Lk => decide (i < x.iface)) l[k] = true → R = (k : Int)) := fun h => by rw [HRD.out]; exact idx_at hkz HI.out h
      have HV2 : Hid ((fun x : Lk => decide (i < x.iface)) l[k] = false → ∀ j (hj : j < l.length), j < k + 1 → (fun x : Lk => decide (i < x.iface)) l[j] = false) := fun h j hj hjk => by
        by_cases e : j = k
        · subst e; exact h
        · exact HI.out j hj (by omega)
      have hki : (k : Int) < (n : Int) := by omega
      have cc2 := cc wr hgc hgl
      clear cc HI hgc hgl hg1
      simp only at HV1 HV2
      generalize hD : decide (i < l[k].iface) = D at *
      generalize l[k].iface = ra at *
      generalize l[k].peer = rb at *
      clear hD
      go_wp2_with fail
      go_at_call 25; refine cc2.mono ?_; rintro e w2 ⟨rfl, hb2⟩
      have hB2 := below2 hB hb2
      cases D
      · have HV := HV2.out rfl
        have HV3 : Hid (∀ j (hj : j < l.length), j < k + 1 → (fun x : Lk => decide (i < x.iface)) l[j] = false) := HV
        clear HV HV1 HV2 cc2
        go_wp2_with fail
        go_roundw
        case rel => exact ⟨k + 1, by omega, by go_num, hB2, HV3⟩
        case measure => simp [intOf]; omega
      · have HV : Hid (R = (k : Int)) := HV1.out rfl
        clear HV1 HV2 cc2
        go_wp2_with fail
        go_ret
        exact ⟨by have h := HV.out; subst h; rfl, hB2⟩
    · have hkn : decide ((k : Int) < (n : Int)) = false := decide_eq_false (by omega)
      have HV : Hid (R = -1) := by show _ = _; rw [HRD.out]; exact idx_none (fun j hj => HI.out j hj (by have := HN.out; omega))
      clear HI
      go_wp2_with fail
      go_ret
      exact ⟨by have h := HV.out; subst h; rfl, hB⟩
end Go.Proofs.Ytedgmnnbmonhkaa.Lk
