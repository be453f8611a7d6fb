/- What span.Has returns. -/
import Derived.Test.YtmkbijnndbgjgaaSpChk
import Derived.Test.YtmkbijnndbgjgaaLkOf
set_option linter.unusedVariables false
namespace Go.Proofs.Ytmkbijnndbgjgaa.Sp
open Go.RowKit Go.Shelf
open Go.Proofs.Ytmkbijnndbgjgaa.Lk (HasRow hasRow_own addr_add idxL idx_at idx_none)
open Go.Proofs.Ytmkbijnndbgjgaa.Addr (wideN rightB hiN loN adV cmpN RowAt below2 below_drew below_new bset RowAt.lt RowAt.cell RowAt.frozen RowAt.below RowAt.drew RowAt.new RowAt.alloc cells2 cells4 results_cell gset grefl)
theorem idx_in (l : List Sp) (n : Nat) : decide (0 ≤ idxL (fun s => hasS s n) l) = inB l n := by
  unfold idxL inB
  cases h : l.findIdx? (fun s => hasS s n) with
  | none =>
    have := List.findIdx?_eq_none_iff.1 h
    rw [Eq.comm]
    simp only [show decide ((0 : Int) ≤ -1) = false from rfl]
    rw [List.any_eq_false]
    intro x hx; simp [this x hx]
  | some k =>
    obtain ⟨hk, hp, _⟩ := (List.findIdx?_eq_some_iff_getElem).1 h
    have : l.any (fun s => hasS s n) = true := List.any_eq_true.2 ⟨l[k], List.getElem_mem hk, hp⟩
    rw [this]
    simp
set_option maxHeartbeats 2000000 in
theorem has1_any (s : Sp) (n gf ga g : Nat) (w : World) (hs : FitS s) (hn : n < 2 ^ 128) (rf : RowAt w gf (fieldRow g) 123) (ra : RowAt w ga [.int .u64 (hiN n : Int), .int .u64 (loN n : Int)] 95) :
    Calls Try.prog 76 #[.agg #[.int .u64 (hiN s.1 : Int), .int .u64 (loN s.1 : Int), .int .u64 (hiN s.2 : Int), .int .u64 (loN s.2 : Int)], .pointer (some ⟨gf, 0, none⟩), .pointer (some ⟨ga, 0, none⟩)] w fun e w' => e = .returned (.bool (hasS s n)) ∧ Below w.heap.size w w' := by
  have ch := fun W => hasF_any s n g W hs hn
  unfold fdV spV adV f0 f1 f2 f3 at ch
  generalize hasS s n = R at *
  generalize hiN s.1 = a1 at *
  generalize loN s.1 = a2 at *
  generalize hiN s.2 = a3 at *
  generalize loN s.2 = a4 at *
  generalize hiN n = n1 at *
  generalize loN n = n2 at *
  clear hs hn
  obtain ⟨X, hX⟩ : ∃ X, X = w.alloc (.cells #[.int .u64 (a1 : Int), .int .u64 (a2 : Int), .int .u64 (a3 : Int), .int .u64 (a4 : Int)] 130) := ⟨_, rfl⟩
  have hB : Below w.heap.size w X := by rw [hX]; exact below_new (Below.refl _ _) _
  have rs : RowAt X w.heap.size [.int .u64 (a1 : Int), .int .u64 (a2 : Int), .int .u64 (a3 : Int), .int .u64 (a4 : Int)] 130 := by rw [hX]; exact RowAt.new _ _ _
  replace rf := rf.below hB
  replace ra := ra.below hB
  obtain ⟨q0, q1, q2, q3, qf⟩ := cells4 rf
  obtain ⟨s0, s1, s2, s3, sf⟩ := cells4 rs
  obtain ⟨z0, z1, zf⟩ := cells2 ra
  go_enter Try.func76, Try.ntmps76
  go_upto_region 1 with fail
  rw [← hX]
  clear hX
  go_wp2_with fail
  go_at_call 77; refine (ch _).mono ?_; rintro e w2 ⟨rfl, hb⟩
  have hB2 := below2 hB hb
  go_wp2_with fail
  go_ret
  exact ⟨rfl, hB2⟩
set_option maxHeartbeats 4000000 in
set_option maxRecDepth 20000 in
theorem idxHas_any (l : List Sp) (v : Value) (n gf ga g : Nat) (w : World) (hl : HasSps w v l) (hf : ∀ s ∈ l, FitS s) (hn : n < 2 ^ 128) (rf : RowAt w gf (fieldRow g) 123) (ra : RowAt w ga [.int .u64 (hiN n : Int), .int .u64 (loN n : Int)] 95) :
    Calls Try.prog 99 #[v, .func (.func 76) #[] #[.pointer (some ⟨gf, 0, none⟩), .pointer (some ⟨ga, 0, none⟩)]] w fun e w' => e = .returned (.int .i64 (idxL (fun s : Sp => hasS s n) l)) ∧ Below w.heap.size w w' := by
  obtain ⟨o, c, rfl, hc1, hc2⟩ := HasRow.slice hl
  have HR : Hid (∀ wr : World, Below w.heap.size w wr → HasSps wr (.slice o l.length c) l) := fun wr hb => hl.keep hb
  have HG : Hid (∀ (k : Nat) (hk : k < l.length) (wr : World), Below w.heap.size w wr → Calls Try.prog 76 #[.agg #[.int .u64 (hiN l[k].1 : Int), .int .u64 (loN l[k].1 : Int), .int .u64 (hiN l[k].2 : Int), .int .u64 (loN l[k].2 : Int)], .pointer (some ⟨gf, 0, none⟩), .pointer (some ⟨ga, 0, none⟩)] wr fun e w' => e = .returned (.bool (hasS l[k] n)) ∧ Below wr.heap.size wr w') := fun k hk wr hb => has1_any l[k] n gf ga g wr (hf _ (List.getElem_mem hk)) hn (rf.below hb) (ra.below hb)
  obtain ⟨m, hm⟩ : ∃ m, m = l.length := ⟨_, rfl⟩
  have HN : Hid (m = l.length) := hm
  rw [← hm] at HR hc1 ⊢
  have hni : (m : Int) ≤ 9223372036854775807 := by omega
  obtain ⟨R, hR⟩ : ∃ R, R = idxL (fun s : Sp => hasS s n) l := ⟨_, rfl⟩
  have HRD : Hid (R = idxL (fun s : Sp => hasS s n) l) := hR
  rw [← hR]
  clear hl hm hR hf hn rf ra
  go_enter Try.func99, Try.ntmps99
  go_wp2_with fail
  go_loopw [8] (fun q wr => ∃ k : Nat, k ≤ m ∧ q = .int .i64 k ∧ Below w.heap.size w wr ∧ Hid (∀ j (hj : j < l.length), j < k → (fun s : Sp => hasS s n) l[j] = false)) (fun q _ => m - (Go.RowKit.intOf q).toNat)
  case atStart => exact ⟨0, by omega, rfl, Below.refl _ _, fun j hj h => absurd h (Nat.not_lt_zero _)⟩
  case round =>
    obtain ⟨k, hk, rfl, hB, HI⟩ := hrel
    by_cases hlt : k < m
    · have hkz : k < l.length := by rw [← HN.out]; exact hlt
      obtain ⟨g1, i1, rfl, hg1, a0, a1, a2, a3⟩ := HasSps.cell (HR.out _ hB) k hkz
      have cc2 := HG.out k hkz wr hB
      have HV1 : Hid ((fun s : Sp => hasS s n) l[k] = true → R = (k : Int)) := fun h => by rw [HRD.out]; exact idx_at hkz HI.out h
      have HV2 : Hid ((fun s : Sp => hasS s n) l[k] = false → ∀ j (hj : j < l.length), j < k + 1 → (fun s : Sp => hasS s n) l[j] = false) := fun h j hj hjk => by
        by_cases e : j = k
        · subst e; exact h
        · exact HI.out j hj (by omega)
      have hki : (k : Int) < (m : Int) := by omega
      clear HI hg1
      simp only at HV1 HV2
      generalize hD : hasS l[k] n = D at *
      generalize hiN l[k].1 = ra at *
      generalize loN l[k].1 = rb at *
      generalize hiN l[k].2 = rc at *
      generalize loN l[k].2 = rd at *
      clear hD
      go_wp2_with fail
      go_at_call 76; refine cc2.mono ?_; rintro e w2 ⟨rfl, hb2⟩
      have hB2 := below2 hB hb2
      cases D
      · have HV := HV2.out rfl
        have HV3 : Hid (∀ j (hj : j < l.length), j < k + 1 → (fun s : Sp => hasS s n) l[j] = false) := HV
        clear HV HV1 HV2 cc2
        go_wp2_with fail
        go_roundw
        case rel => exact ⟨k + 1, by omega, by go_num, hB2, HV3⟩
        case measure => simp [Go.RowKit.intOf]; omega
      · have HV : Hid (R = (k : Int)) := HV1.out rfl
        clear HV1 HV2 cc2
        go_wp2_with fail
        go_ret
        exact ⟨by have h := HV.out; subst h; rfl, hB2⟩
    · have hkn : decide ((k : Int) < (m : Int)) = false := decide_eq_false (by omega)
      have HV : Hid (R = -1) := by show _ = _; rw [HRD.out]; exact idx_none (fun j hj => HI.out j hj (by have := HN.out; omega))
      clear HI
      go_wp2_with fail
      go_ret
      exact ⟨by have h := HV.out; subst h; rfl, hB⟩
theorem conHas_any (l : List Sp) (v : Value) (n gf ga g : Nat) (w : World) (hl : HasSps w v l) (hf : ∀ s ∈ l, FitS s) (hn : n < 2 ^ 128) (rf : RowAt w gf (fieldRow g) 123) (ra : RowAt w ga [.int .u64 (hiN n : Int), .int .u64 (loN n : Int)] 95) :
    Calls Try.prog 75 #[v, .func (.func 76) #[] #[.pointer (some ⟨gf, 0, none⟩), .pointer (some ⟨ga, 0, none⟩)]] w fun e w' => e = .returned (.bool (inB l n)) ∧ Below w.heap.size w w' := by
  have ci := idxHas_any l v n gf ga g w hl hf hn rf ra
  rw [← idx_in]
  generalize idxL (fun s : Sp => hasS s n) l = R at *
  obtain ⟨o, c, rfl, hc1, hc2⟩ := HasRow.slice hl
  generalize l.length = m at *
  clear hl hf hn rf ra
  go_enter Try.func75, Try.ntmps75
  go_wp2_with fail
  go_at_call 99; refine ci.mono ?_; rintro e w2 ⟨rfl, hb⟩
  go_wp2_with fail
  go_ret
  exact ⟨rfl, hb⟩
def hasE (six : Bool) (l : List Sp) (a : Nat) : Bool × Int := if okB six l && rightB six a then (inB l a, 0) else (false, 2)
set_option maxHeartbeats 4000000 in
theorem has_any (six : Bool) (l : List Sp) (v : Value) (n : Nat) (w : World) (h : HasSps w v l) (hf : ∀ s ∈ l, FitS s) (hn : n < 2 ^ 128) :
    Calls Try.prog 56 #[.bool six, v, adV n] w fun e w' => e = .returned (.tuple #[.bool (hasE six l n).1, .int .i64 (hasE six l n).2]) ∧ Below w.heap.size w w' := by
  obtain ⟨X, hX⟩ : ∃ X, X = w.alloc (.cells #[.int .u64 (hiN n : Int), .int .u64 (loN n : Int)] 95) := ⟨_, rfl⟩
  have hB : Below w.heap.size w X := by rw [hX]; exact below_new (Below.refl _ _) _
  have ra : RowAt X w.heap.size [.int .u64 (hiN n : Int), .int .u64 (loN n : Int)] 95 := by rw [hX]; exact RowAt.new _ _ _
  have cc := check_any six l v X (h.keep hB) hf
  have HE : Hid (∀ A B, okB six l = A → rightB six n = B → hasE six l n = if A && B then (inB l n, 0) else (false, 2)) := fun A B h1 h2 => by unfold hasE; rw [h1, h2]
  have ci := fun (W : World) (g : Nat) (hg : SixAt W g six) => is_any six n g W hn hg
  have HK : Hid (∀ W, Below X.heap.size X W → HasSps W v l) := fun W hq => (h.keep hB).keep hq
  have HCON : Hid (∀ (W : World) (u : Value) (gf ga g : Nat), HasSps W u l → RowAt W gf (fieldRow g) 123 → RowAt W ga [.int .u64 (hiN n : Int), .int .u64 (loN n : Int)] 95 → Calls Try.prog 75 #[u, .func (.func 76) #[] #[.pointer (some ⟨gf, 0, none⟩), .pointer (some ⟨ga, 0, none⟩)]] W fun e w' => e = .returned (.bool (inB l n)) ∧ Below W.heap.size W w') := fun W u gf ga g h1 h2 h3 => conHas_any l u n gf ga g W h1 hf hn h2 h3
  have HRUN : Hid (okB six l = true → ∀ W, HasSps W v l → Calls Try.prog 73 #[v] W fun e w' => ∃ u, e = .returned u ∧ Own1 W w' 130 u l) := fun hok W hq => runs_any l v W hq (by have := (okB_iff.1 hok).1; omega)
  obtain ⟨o, c, rfl, _, _⟩ := HasRow.slice h
  unfold adV at *
  generalize hasE six l n = R at *
  generalize okB six l = A at *
  generalize rightB six n = B at *
  generalize inB l n = IN at *
  generalize hiN n = n1 at *
  generalize loN n = n2 at *
  generalize l.length = m at *
  clear h hf hn
  go_enter Try.func56, Try.ntmps56
  go_upto_region 1 with fail
  rw [← hX]
  clear hX
  go_wp2_with fail
  go_at_call 68; refine cc.mono ?_; rintro e w2 ⟨rfl, hb2⟩
  replace ra := ra.below hb2
  have hq2 : Below X.heap.size X w2 := hb2
  clear hb2 cc
  cases A
  · have HV : Hid (R = (false, 2)) := HE.out false B rfl rfl
    have hW := below2 hB hq2
    clear HE HCON HRUN HK ra ci
    unfold chk
    go_wp2_with fail
    go_ret2
    exact ⟨by rw [HV.out]; rfl, hW⟩
  · have crun := HRUN.out rfl
    clear HRUN
    have cg := addresses_any six
    unfold chk
    simp only [if_true]
    go_wp2_with fail
    go_at_call 71; refine (cg _).mono ?_; rintro e w3 ⟨g, rfl, hg, -, hb3⟩
    replace ra := ra.below hb3
    have hq3 := below2 hq2 hb3
    clear hb3 hq2 cg
    obtain ⟨Y, hY⟩ : ∃ Y, Y = w3.alloc (.cells #[f0 g, f1, f2 g, f3 g] 123) := ⟨_, rfl⟩
    have hbY : Below w3.heap.size w3 Y := by rw [hY]; exact below_new (Below.refl _ _) _
    have rf : RowAt Y w3.heap.size (fieldRow g) 123 := by rw [hY]; exact RowAt.new _ _ _
    replace ra := ra.below hbY
    replace hg := hg.keep hbY
    have hqY := below2 hq3 hbY
    clear hq3 hbY
    obtain ⟨gf, hgf⟩ : ∃ q, q = w3.heap.size := ⟨_, rfl⟩
    unfold fdV
    unfold f0 f1 f2 f3 at *
    go_upto_region 5 with fail
    rw [← hY, ← hgf]
    rw [← hgf] at rf
    clear hY hgf
    obtain ⟨q0, q1, q2, q3, qf⟩ := cells4 rf
    obtain ⟨z0, z1, zf⟩ := cells2 ra
    go_wp2_with fail
    go_at_call 87; refine (ci _ _ hg).mono ?_; rintro e w4 ⟨rfl, hb4⟩
    replace ra := ra.below hb4
    replace rf := rf.below hb4
    have hq4 := below2 hqY hb4
    clear hqY hb4 hg ci q0 q1 q2 q3 qf z0 z1 zf
    cases B
    · have HV : Hid (R = (false, 2)) := HE.out true false rfl rfl
      have hW := below2 hB hq4
      clear HE HCON HK ra rf crun
      go_wp2_with fail
      go_ret2
      exact ⟨by rw [HV.out]; rfl, hW⟩
    · have HV : Hid (R = (IN, 0)) := HE.out true true rfl rfl
      clear HE
      have hk4 := HK.out _ hq4
      have cr4 := crun _ hk4
      clear hk4 HK crun
      go_wp2_with fail
      go_at_call 73; refine cr4.mono ?_; rintro e w5 ⟨u5, rfl, hO5⟩
      replace ra := ra.below hO5.bl
      replace rf := rf.below hO5.bl
      have hq5 := below2 hq4 hO5.bl
      have hu5 := hO5.has
      have cc5 := HCON.out w5 u5 gf w.heap.size g hu5 rf ra
      clear HCON hO5 hu5 ra rf hq4 cr4
      go_wp2_with fail
      go_at_call 75; refine cc5.mono ?_; rintro e w6 ⟨rfl, hb6⟩
      have hW := below2 hB (below2 hq5 hb6)
      clear cc5 hb6 hq5
      go_wp2_with fail
      go_ret2
      exact ⟨by rw [HV.out]; rfl, hW⟩
end Go.Proofs.Ytmkbijnndbgjgaa.Sp
