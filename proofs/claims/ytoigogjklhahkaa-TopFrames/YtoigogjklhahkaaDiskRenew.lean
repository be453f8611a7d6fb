/- What (*drive).renew does. -/
import Derived.Test.YtoigogjklhahkaaDiskSettle
import Derived.Test.YtoigogjklhahkaaDiskCopied
set_option linter.unusedVariables false
namespace Go.Proofs.Ytoigogjklhahkaa.Disk
open Go.RowKit Go.Shelf

/-- a row whose block is not the one that was written stays -/
theorem HasRow.far {W W' : World} {v : Value} {sz n : Nat} {cs : List Value} {B : Nat} (h : HasRow W v sz n cs) (hg : W.grownBy W' (some B)) (hB : ∀ b i m cap, v = .slice (some ⟨b, i, none⟩) m cap → 0 < n → b ≠ B) : HasRow W' v sz n cs := by
  refine ⟨h.1, ?_⟩
  rcases h.2 with h0 | ⟨a, cap, e, h1, h2, h3, h4⟩
  · exact .inl h0
  · refine .inr ⟨a, cap, e, h1, h2, fun h => ⟨(h3 h).1, Nat.lt_of_lt_of_le (h3 h).2 hg.size⟩, fun j hj => ?_⟩
    have hn : 0 < n := by rcases Nat.eq_zero_or_pos n with h0 | h0; rw [h0] at hj; omega; exact h0
    obtain ⟨b, i, s⟩ := a
    obtain ⟨hs, hlt⟩ := h3 hn
    simp only at hs hlt
    subst hs
    have h5 := h4 j hj
    rw [addr_add] at h5 ⊢
    rw [← h5]
    exact gcell hg b (i + j) hlt (by simp; exact hB b i n cap e hn)
theorem HasPuts.box {W W' : World} {v : Value} {ps : List PutT} {B : Nat} (h : HasPuts W v ps) (hx : ∀ x z, W.cell? ⟨B, x, none⟩ ≠ some (.string z)) (hg : W.grownBy W' (some B)) : HasPuts W' v ps := by
  refine HasRow.far h hg (fun b i m cap e hn eb => ?_)
  subst e; subst eb
  obtain ⟨b', i', e, _, _, e2⟩ := HasPuts.cell h 0 hn
  injection e with e
  injection e with e3 e4
  subst e3; subst e4
  exact hx _ _ e2
theorem HasStrs.box {W W' : World} {v : Value} {ps : List (List UInt8)} {B : Nat} (h : HasStrs W v ps) (hx : ∀ x z, W.cell? ⟨B, x, none⟩ ≠ some (.string z)) (hg : W.grownBy W' (some B)) : HasStrs W' v ps := by
  refine HasRow.far h hg (fun b i m cap e hn eb => ?_)
  subst e; subst eb
  obtain ⟨b', i', e, _, e2⟩ := HasStrs.cell h 0 hn
  injection e with e
  injection e with e3 e4
  subst e3; subst e4
  exact hx _ _ e2
theorem putCs_same (ps : List PutT) (k : Nat) (hk : k < ps.length) : (putCs ps).set (k * 2 + 1) (strV ps[k].2) = putCs ps := by
  have h := (putCs_at ps k hk).2
  rw [Nat.mul_comm] at h
  obtain ⟨h1, h2⟩ := List.getElem?_eq_some_iff.1 h
  rw [← h2, List.set_getElem_self]
set_option maxHeartbeats 2000000 in
theorem renew_any (B : Nat) (s c : Value) (f : Int) (o : Bool) (secs : List (List UInt8)) (cache : List PutT) (w : World)
    (h : Box w B s c f o) (hs : HasStrs w s secs) (hc : HasPuts w c cache) (hsl : ∀ z ∈ secs, z.length ≤ 128) (hcl : ∀ p ∈ cache, p.2.length ≤ 128) (h1 : secs.length ≤ 1024) (h2 : cache.length ≤ 5000) :
    Calls Try.prog 36 #[.pointer (some ⟨B, 0, none⟩)] w fun e w' => ∃ s' c', e = .returned (.tuple #[]) ∧ Box w' B s' c' f o ∧ HasStrs w' s' secs ∧ HasPuts w' c' cache ∧ w.grownBy w' (some B) := by
  obtain ⟨co, cc, rfl, hc1, hc2⟩ := HasRow.slice hc
  obtain ⟨so, sc, rfl, hs1, hs2⟩ := HasRow.slice hs
  have hns := h.nostr ⟨_, _, _, rfl⟩ ⟨_, _, _, rfl⟩
  have c1 := copied_any secs _ w hs h1 hsl
  obtain ⟨q0, q1, q2, q3⟩ := h.cells
  have hfz := h.frozen
  have hBlt := h.lt
  have HB : Hid (Box w B (.slice so secs.length sc) (.slice co cache.length cc) f o) := h
  have HC : Hid (HasPuts w (.slice co cache.length cc) cache) := hc
  have HCL : Hid (∀ p ∈ cache, p.2.length ≤ 128) := hcl
  have hm5 : cache.length ≤ 5000 := h2
  clear h hs hc hsl hcl h2
  go_enter Try.func36, Try.ntmps36
  go_wp2_with fail
  go_at_call 17; refine c1.mono ?_; rintro e w1 ⟨u, rfl, hown, hb1⟩
  obtain ⟨uo, uc, rfl, hu1, hu2⟩ := HasRow.slice (hasRow_own hown)
  have HB1 : Hid (Box w1 B (.slice so secs.length sc) (.slice co cache.length cc) f o) := HB.out.below hb1
  have hf1 := HB1.out.frozen
  obtain ⟨p0, p1, p2, p3⟩ := HB1.out.cells
  obtain ⟨W1, hW1⟩ : ∃ W1, W1 = w1.setCell ⟨B, 0, none⟩ (.slice uo secs.length uc) := ⟨_, rfl⟩
  have HB2 : Hid (Box W1 B (.slice uo secs.length uc) (.slice co cache.length cc) f o) := by rw [hW1]; exact (HB1.out.set).1 _
  have hown1 : W1.ownsRow w.heap.size 9 1 (.slice uo secs.length uc) secs.length (secs.map strV) := by
    rw [hW1]; exact hown.kept (grown_set _ _ _ _) (by
      cases uo with
      | none => exact .inl rfl
      | some a => exact .inr (by have := (hown.lt a.block rfl).1; simp [Value.ownBlock]; omega))
  have hgr1 : w.grownBy W1 (some B) := by rw [hW1]; exact grown2 (grown_any (grown_of hb1) _) (grown_set _ _ _ _)
  have HC1 : HasPuts W1 (.slice co cache.length cc) cache := HasPuts.box HC.out hns hgr1
  have p4 := (HB2.out.cells).2.1
  rw [hW1] at p4
  have c2 := clone_puts cache _ W1 HC1 (by omega)
  rw [hW1] at c2
  go_wp2_with fail
  go_at_call 52; refine c2.mono ?_
  rw [← hW1]
  rintro e w2 ⟨v, rfl, hown2, hb2⟩
  obtain ⟨vo, vc, rfl, hv1, hv2⟩ := HasRow.slice (hasRow_own hown2)
  have HB3 : Hid (Box w2 B (.slice uo secs.length uc) (.slice co cache.length cc) f o) := HB2.out.below hb2
  have hf2 := HB3.out.frozen
  obtain ⟨r0, r1, r2, r3⟩ := HB3.out.cells
  obtain ⟨W2, hW2⟩ : ∃ W2, W2 = w2.setCell ⟨B, 1, none⟩ (.slice vo cache.length vc) := ⟨_, rfl⟩
  have HB4 : Hid (Box W2 B (.slice uo secs.length uc) (.slice vo cache.length vc) f o) := by rw [hW2]; exact (HB3.out.set).2.1 _
  have hsz1 := hgr1.size
  have hvB : ∀ a : Addr, vo = some a → a.block ≠ B := fun a e => by subst e; have := (hown2.lt a.block rfl).1; omega
  have huB : ∀ a : Addr, uo = some a → a.block ≠ B := fun a e => by subst e; have := (hown1.lt a.block rfl).1; omega
  have hown3 : W2.ownsRow W1.heap.size 76 2 (.slice vo cache.length vc) cache.length (putCs cache) := by
    rw [hW2]; exact hown2.kept (grown_set _ _ _ _) (by
      cases vo with
      | none => exact .inl rfl
      | some a => exact .inr (by have := hvB a rfl; simp [Value.ownBlock]; exact this))
  have hs3 : W2.ownsRow w.heap.size 9 1 (.slice uo secs.length uc) secs.length (secs.map strV) := by
    rw [hW2]; exact (hown1.kept (grown_of hb2) (by
      cases uo with
      | none => exact .inl rfl
      | some a => exact .inr (by simp [Value.ownBlock]))).kept (grown_set _ _ _ _) (by
      cases uo with
      | none => exact .inl rfl
      | some a => exact .inr (by have := huB a rfl; simp [Value.ownBlock]; exact this))
  have huv : ∀ a a' : Addr, uo = some a → vo = some a' → a.block ≠ a'.block := fun a a' e e' => by
    subst e; subst e'
    have := (hown1.lt a.block rfl).2
    have := (hown2.lt a'.block rfl).1
    omega
  have hgr2 : w.grownBy W2 (some B) := by rw [hW2]; exact grown2 hgr1 (grown2 (grown_any (grown_of hb2) _) (grown_set _ _ _ _))
  have p5 := (HB4.out.cells).2.1
  rw [hW2] at p5
  obtain ⟨n, hn⟩ : ∃ n, n = secs.length := ⟨_, rfl⟩
  obtain ⟨m, hm⟩ : ∃ m, m = cache.length := ⟨_, rfl⟩
  have HMm : Hid (m = cache.length) := hm
  have HNn : Hid (n = secs.length) := hn
  have hmm : m ≤ 5000 := by omega
  have hvc : m ≤ vc := by omega
  rw [← hn] at hs3 HB4
  rw [← hm] at hown3 HB4
  simp only [← hm, ← hn] at hW2 p5 ⊢
  have HW1 : Hid (w.heap.size ≤ W1.heap.size) := hsz1
  clear hn hm p4 c1 hown1 hown2 hgr1 HC1 hv1 hu1 hsz1
  go_wp2_with fail
  rw [← hW2]
  clear p5 hW2
  go_loopw [30] (fun i wr => ∃ k : Nat, k ≤ m ∧ i = .int .i64 k ∧ Box wr B (.slice uo n uc) (.slice vo m vc) f o ∧ wr.ownsRow W1.heap.size 76 2 (.slice vo m vc) m (putCs cache) ∧ wr.ownsRow w.heap.size 9 1 (.slice uo n uc) n (secs.map strV) ∧ w.grownBy wr (some B)) (fun i _ => m - (intOf i).toNat)
  case atStart => exact ⟨0, by omega, rfl, HB4.out, hown3, hs3, hgr2⟩
  case round =>
    obtain ⟨k, hk, rfl, hbox, ho, hso, hg⟩ := hrel
    by_cases hlt : k < m
    · have hkz : k < cache.length := by rw [← HMm.out]; exact hlt
      obtain ⟨g1, cap1, e⟩ : ∃ g1 cap1, Value.slice vo m vc = .slice (some ⟨g1, 0, none⟩) m cap1 := by
        obtain ⟨m', rfl⟩ : ∃ m', m = m' + 1 := ⟨m - 1, by omega⟩
        exact ownsRow_succ ho
      injection e with e1 e2 e3
      subst e1; subst e3
      have hgB := hvB _ rfl
      have hlg := ho.lt g1 rfl
      have d := putCs_at cache k hkz
      rw [Nat.mul_comm] at d
      have d1 := (ho.cellAt (k * 2) (by omega)).trans d.1
      have d2 := (ho.cellAt (k * 2 + 1) (by omega)).trans d.2
      have HT : Hid ((putCs cache).set (k * 2 + 1) (strV cache[k].2) = putCs cache) := putCs_same cache k hkz
      have hpl := HCL.out cache[k] (List.getElem_mem hkz)
      generalize cache[k] = p at d1 d2 HT hpl
      clear d
      obtain ⟨pa, pd⟩ := p
      simp only at d1 d2 HT hpl
      unfold strV at d2
      have cl := fun w => clone_any ⟨pd.toArray⟩ w (by rw [size_list]; omega)
      generalize hPD : (⟨pd.toArray⟩ : ByteArray) = PD at d2 cl
      have hboxW := hbox.kept (World.grownBy_alloc wr (.cells #[.int .i64 pa, .string PD] 76) none) (by simp)
      have hoW := ho.alloc (.cells #[.int .i64 pa, .string PD] 76)
      have hsW := hso.alloc (.cells #[.int .i64 pa, .string PD] 76)
      have hgW : w.grownBy (wr.alloc (.cells #[.int .i64 pa, .string PD] 76)) (some B) := grown2 hg (World.grownBy_alloc wr _ _)
      have x2 : (wr.alloc (.cells #[.int .i64 pa, .string PD] 76)).cell? ⟨wr.heap.size, 1, none⟩ = some (.string PD) := by
        simp only [World.cell?, heap_alloc_new]; exact if_neg (by simp)
      have x5 : (wr.alloc (.cells #[.int .i64 pa, .string PD] 76)).cell? ⟨g1, k * 2 + 1, none⟩ = some (.string PD) := by
        rw [← d2]; exact ((Below.refl _ wr).alloc (Nat.le_refl _) _).cell (p := ⟨g1, k * 2 + 1, none⟩) hlg.2
      have HPD : Hid (PD = ⟨pd.toArray⟩) := hPD.symm
      clear hPD hpl
      go_wp2_with fail
      obtain ⟨W3, hW3⟩ : ∃ W3, W3 = wr.alloc (.cells #[.int .i64 pa, .string PD] 76) := ⟨_, rfl⟩
      have hsz3 : wr.heap.size + 1 = W3.heap.size := by rw [hW3]; simp
      rw [← hW3] at hgW hboxW hoW hsW x2 x5 ⊢
      have hxl : wr.heap.size < W3.heap.size := by omega
      obtain ⟨y0, y1, _⟩ := hboxW.cells
      have hgl := (hoW.lt g1 rfl).2
      have hBl := hboxW.lt
      clear hbox ho hso hg hW3 d1 d2
      go_region_with (
        go_at_call 30
        refine (cl _).mono ?_
        rintro e w4 ⟨rfl, hb4⟩
        have hb5 : Below W3.heap.size W3 w4 := below2 (by (repeat' (first | exact Below.refl _ _ | refine Below.drew ?_))) hb4
        have t1 := ((bcell hb5).1 B 1 hBl).trans y1
        have hoX := hoW.kept (grown_of hb5) (.inr (by simp [Value.ownBlock]))
        have t4 := hoX.frozenAt (k * 2 + 1)
        have t5 := ((bcell hb5).1 g1 (k * 2 + 1) hgl).trans x5)
      all_goals have hgx : w.grownBy w4 (some B) := grown2 hgW (grown_any (grown_of hb5) _)
      all_goals have hbx := hboxW.below hb5
      all_goals have hsx := hsW.kept (grown_of hb5) (by
        cases uo with
        | none => exact .inl rfl
        | some a => exact .inr (by simp [Value.ownBlock]))
      all_goals
        go_wp2
        go_roundw
        case rel =>
          refine ⟨k + 1, by omega, by go_num, hbx.kept (grown_set w4 g1 (k * 2 + 1) (.string PD)) (by simp; omega), ?_, ?_, ?_⟩
          · have := (hoX.stored (k * 2 + 1) (.string PD)).1
            rw [HPD.out] at this ⊢
            have e := HT.out
            unfold strV at e
            rw [e] at this
            exact this
          · exact hsx.kept (grown_set w4 g1 (k * 2 + 1) (.string PD)) (by
              cases uo with
              | none => exact .inl rfl
              | some a => exact .inr (by have := huv a _ rfl rfl; simp [Value.ownBlock]; exact this))
          · exact grown_new hgx (Nat.le_trans HW1.out hlg.1) _ _
        case measure => simp [intOf]; omega
    · obtain rfl : k = m := by omega
      go_wp2
      go_end0
      exact ⟨_, _, rfl, hbox, by rw [HNn.out] at hso; unfold HasStrs; rw [HNn.out]; exact hasRow_own hso, by unfold HasPuts; rw [← HMm.out]; exact hasRow_own ho, hg⟩
end Go.Proofs.Ytoigogjklhahkaa.Disk
