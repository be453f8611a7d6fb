/- links.Peers. -/
import Derived.Test.YtedgmnnbmonhkaaLkKeys
import Derived.Test.YtedgmnnbmonhkaaLkDelM
import Derived.Test.YtedgmnnbmonhkaaLkCheck
set_option linter.unusedVariables false
namespace Go.Proofs.Ytedgmnnbmonhkaa.Lk
open Go.RowKit Go.Maps
open Go.Proofs.Ytedgmnnbmonhkaa.Addr (RowAt below2 below_drew below_new bset RowAt.lt RowAt.cell RowAt.frozen RowAt.below RowAt.drew RowAt.new RowAt.alloc cells2)
theorem rise_ok (l : List Lk) : ∀ p, rise p l = true → ∀ x ∈ l, okK x = true := by
  induction l with
  | nil => intro p h x hx; cases hx
  | cons s l ih =>
    intro p h x hx
    cases p with
    | none =>
      simp only [rise, Bool.and_eq_true] at h
      rcases List.mem_cons.1 hx with rfl | hx
      · exact h.1
      · exact ih _ h.2 x hx
    | some r =>
      simp only [rise, Bool.and_eq_true] at h
      rcases List.mem_cons.1 hx with rfl | hx
      · exact h.1.1
      · exact ih _ h.2 x hx
theorem okL_mem {l : List Lk} (h : okL l = true) {x : Lk} (hx : x ∈ l) : okK x = true := by
  unfold okL at h
  simp only [Bool.and_eq_true] at h
  exact rise_ok l none h.2 x hx
theorem noted_put {D : DataW Unit} {W : World} {b n : Nat} (hown : W.ownsMap Try.prog 3 unitElem b n D) (p : Int) (d : DataW Unit) {S : List Int} (hS : ∀ x, Maps.has D (.int .i64 x) = true ↔ x ∈ S) (x : Int) : Maps.has (D.put (.int .i64 p) d) (.int .i64 x) = true ↔ x ∈ insP p S := by
  rw [mem_insP]
  by_cases h : x = p
  · subst h
    rw [has_put_same hown.isMap (by trivial)]
    simp
  · rw [has_put_other (by intro e; injection e with _ e; exact h e), hS x]
    constructor
    · exact fun h => .inr h
    · rintro (h1 | h1)
      · exact absurd h1 h
      · exact h1
set_option maxHeartbeats 8000000 in
set_option maxRecDepth 20000 in
theorem peers_any (l : List Lk) (v : Value) (w : World) (hl : HasLks w v l) :
    Calls Try.prog 17 #[v] w fun e w' => ∃ u, e = .returned (.tuple #[u, .int .i64 (checkL l)]) ∧ HasInts w' u (peersO l) ∧ Below w.heap.size w w' := by
  obtain ⟨o, c, rfl, hc1, hc2⟩ := HasRow.slice hl
  have cc := fun W (hb : Below w.heap.size w W) => check_any l _ W (hl.keep hb)
  have hck : checkL l = if okL l then 0 else 2 := rfl
  rw [hck] at cc ⊢
  cases hok : okL l
  · have hP : peersO l = [] := by unfold peersO; rw [hok]; rfl
    rw [hok] at cc
    simp only [Bool.false_eq_true, if_false] at cc ⊢
    rw [hP]
    go_enter Try.func17, Try.ntmps17
    go_wp2_with fail
    go_at_call 12; refine (cc _ (Below.refl _ _)).mono ?_; rintro e w1 ⟨rfl, hb1⟩
    go_wp2_with fail
    go_ret2
    exact ⟨_, rfl, hasRow_nil _ 1, hb1⟩
  have hlen := okL_len2 hok
  have HO : Hid (∀ x ∈ l, okK x = true) := fun x hx => okL_mem hok hx
  have hP : peersO l = peersL l := by unfold peersO; rw [hok]; rfl
  rw [hok] at cc
  simp only [if_true] at cc ⊢
  rw [hP]
  have HR : Hid (∀ wr : World, Below w.heap.size w wr → HasLks wr (.slice o l.length c) l) := fun wr hb => hl.keep hb
  obtain ⟨n, hn⟩ : ∃ n, n = l.length := ⟨_, rfl⟩
  have HN : Hid (n = l.length) := hn
  rw [← hn] at HR hc1 hlen cc ⊢
  have hni : (n : Int) ≤ 32 := by omega
  clear hl hn hP hck
  have hmm := @run_makeMap Try.prog
  go_enter Try.func17, Try.ntmps17
  go_wp2_with fail
  go_at_call 12; refine (cc _ (Below.refl _ _)).mono ?_; rintro e w1 ⟨rfl, hb1⟩
  have H0 : Hid (Noted (w1.alloc (.map #[] 0)) w1.heap.size 0 (peersL (l.take 0)) ∧ Below w.heap.size w (w1.alloc (.map #[] 0)) ∧ w.heap.size ≤ w1.heap.size) := ⟨⟨.map [], World.ownsMap_made _ _ _ _, fun x => by rw [List.take_zero]; simp [peersL, Maps.has]⟩, below_new hb1 _, hb1.size⟩
  have hwb : w.heap.size ≤ w1.heap.size := hb1.size
  clear hb1 cc
  go_wp2_with fail
  generalize w1.heap.size = b at H0 hwb ⊢
  go_loopw [16] (fun q wr => ∃ k : Nat, k ≤ n ∧ q = .int .i64 k ∧ Hid (Noted wr b k (peersL (l.take k)) ∧ Below w.heap.size w wr)) (fun q _ => n - (Go.RowKit.intOf q).toNat)
  case atStart => exact ⟨0, by omega, rfl, H0.out.1, H0.out.2.1⟩
  case round =>
    obtain ⟨k, hk, rfl, HI⟩ := hrel
    by_cases hlt : k < n
    · have hkz : k < l.length := by rw [← HN.out]; exact hlt
      obtain ⟨g1, i1, rfl, hg1, a0, a1⟩ := HasLks.cell (HR.out _ HI.out.2) k hkz
      have HS : Hid (peersL (l.take (k + 1)) = insP l[k].peer (peersL (l.take k))) := peers_snoc l k hkz
      have hpk : keyOf Try.prog 3 (.int .i64 l[k].peer) = some (.int .i64 l[k].peer) := keyOf_int_mk Try.underlying3 (by
        have h := HO.out l[k] (List.getElem_mem hkz)
        unfold okK at h
        simp only [Bool.and_eq_true, decide_eq_true_eq] at h
        simp [Lit.wf, IntKind.min, IntKind.max, IntKind.bits, IntKind.signed]
        omega)
      have hki : (k : Int) < (n : Int) := by omega
      generalize l[k].iface = ra at a0
      generalize l[k].peer = p at a1 HS hpk
      obtain ⟨⟨D, hown, hD⟩, hbr⟩ := HI.out
      clear HI hg1
      go_upto_region 8 with fail
      obtain ⟨X, hX⟩ : ∃ X, X = wr.alloc (.cells #[.int .i64 ra, .int .i64 p] 24) := ⟨_, rfl⟩
      have hbX : Below wr.heap.size wr X := by rw [hX]; exact below_new (Below.refl _ _) _
      have r0 : RowAt X wr.heap.size [.int .i64 ra, .int .i64 p] 24 := by rw [hX]; exact RowAt.new _ _ _
      have hownX : X.ownsMap Try.prog 3 unitElem b k D := by rw [hX]; exact hown.alloc _
      rw [← hX]
      have hbw : Below w.heap.size w X := below2 hbr hbX
      clear hX hbX a0 a1 hbr hown
      generalize wr.heap.size = gs at r0 ⊢
      obtain ⟨y0, y1, yf⟩ := cells2 r0
      go_wp2_with (at_mapUpdate; refine wpList_mapUpdate_own _ rfl _ _ _ 49 rfl 3 50 keyed_int Try.underlying49 (unitElem (H := Unit)) b k _ rfl hownX (by unfold maxLen; omega) _ _ _ rfl rfl hpk _ [] unitElem_mk ?_; intro w2 hown2 hgrow2)
      have HF : Hid (Noted w2 b (k + 1) (peersL (l.take (k + 1))) ∧ Below w.heap.size w w2) := by
        refine ⟨⟨_, hown2, fun x => ?_⟩, hbw.grown hgrow2 hbw.size (fun j e => by injection e with e; omega)⟩
        rw [HS.out]
        exact noted_put hownX p _ hD x
      go_roundw
      case rel => exact ⟨k + 1, by omega, by go_num, HF⟩
      case measure => simp [Go.RowKit.intOf]; omega
    · have hkn : decide ((k : Int) < (n : Int)) = false := decide_eq_false (by omega)
      have hte : l.take k = l := by have := HN.out; exact List.take_of_length_le (by omega)
      obtain ⟨hNo, hbr⟩ := HI.out
      rw [hte] at hNo
      have ck := fun mb W => keys_any mb W
      have cs := sorted_any b k (peersL l) wr (peers_up l) hNo (by omega)
      clear hte HI hNo
      go_wp2_with fail
      go_at_call 30; refine (ck _ _).mono ?_; rintro e w2 ⟨rfl, rfl⟩
      go_wp2_with fail
      go_at_call 29; refine cs.mono ?_; rintro e w3 ⟨u, rfl, hu, hb3⟩
      go_wp2_with fail
      go_ret2
      exact ⟨_, rfl, hu, below2 hbr hb3⟩
end Go.Proofs.Ytedgmnnbmonhkaa.Lk
