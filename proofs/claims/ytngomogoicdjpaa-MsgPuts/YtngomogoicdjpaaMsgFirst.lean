/- What first, Get, GetPrefix and GetAction return. -/
import Derived.Test.YtngomogoicdjpaaMsgEv
import Derived.Test.YtngomogoicdjpaaMsgChk3
import Derived.Test.YtngomogoicdjpaaShelf
set_option linter.unusedVariables false
namespace Go.Proofs.Ytngomogoicdjpaa.Msg
open Go.RowKit
open Go.Proofs.Ytngomogoicdjpaa.Addr (Pf okP checkP wideN firstN kP hiN loN adV pfV RowAt below2 below_drew below_new bset RowAt.lt RowAt.cell RowAt.frozen RowAt.below RowAt.drew RowAt.new RowAt.alloc gdrew gset gbelow galloc grefl cells2 cells4 results_cell)

theorem results_cell_tmp2 {fn : Func} {p u x : Tmp} {ty : TypeId} (h : fn.results = #[.cell p ty, .tmp u, .tmp x]) (tmps : Array Value) (P : Program) (w : World) :
    (results fn tmps).run P w = ((asAddr (tmps.getD p undef)).run P w).andThen fun a w₁ => ((loadVar ty a).run P w₁).andThen fun v w₂ => .ok (.tuple #[v, tmps.getD u undef, tmps.getD x undef]) w₂ := by
  simp only [results, h]
  simp [Sem.run_bind, Result.andThen]
/-- the right thing at the beginning of a text, and what is behind it -/
def firstP {α : Type} (rd : Option (List UInt8) → α × Option (List UInt8)) (ok : α → Bool) (z : α) (s : List UInt8) : α × List UInt8 × Int :=
  match (rd (some s)).2 with
  | none => (z, [], 7)
  | some r => if ok (rd (some s)).1 then ((rd (some s)).1, r, 0) else (z, [], 7)
def FitP (p : Pf) : Prop := (-9223372036854775808 ≤ p.len ∧ p.len ≤ 9223372036854775807) ∧ p.n < 2 ^ 128
theorem pfcheck (p : Pf) (W : World) (h : FitP p) : Calls Try.prog 32 #[pfV p] W fun e w' => e = .returned (.int .i64 (checkP p)) ∧ Below W.heap.size W w' := Addr.check_any p W h.1 h.2
theorem pfV0 : pfV zeroPf = .agg #[.bool false, .int .u64 0, .int .u64 0, .int .i64 0] := by unfold Addr.pfV zeroPf; simp [hi0, lo0]
theorem f1_le (st : Option (List UInt8)) : (part (0 : Nat) f1 st).1 ≤ 255 := by
  cases st with
  | none => simp [part]
  | some l =>
    cases l with
    | nil => simp [part, f1]
    | cons b t => have := b.toNat_lt; show b.toNat ≤ 255; omega
theorem fI_le (st : Option (List UInt8)) : 0 ≤ (part (0 : Int) fI st).1 ∧ (part (0 : Int) fI st).1 ≤ 9223372036854775807 := by
  cases st with
  | none => simp [part]
  | some l =>
    cases hs : fI l with
    | none => rw [part_no hs]; simp
    | some p =>
      obtain ⟨v, r⟩ := p
      rw [part_yes hs]
      unfold fI at hs
      cases hr : rdN l with
      | none => rw [hr] at hs; simp at hs
      | some p =>
        obtain ⟨n, q⟩ := p
        rw [hr] at hs
        simp only at hs
        split at hs
        · simp at hs; show 0 ≤ v ∧ v ≤ _; omega
        · cases hs
theorem gaN_lt (six : Bool) (s : List UInt8) : gaN six s < 2 ^ 128 := by
  unfold gaN
  have h := nb_lt (s.take (wB six) ++ List.replicate (wB six - (s.take (wB six)).length) 0) 0
  have hl : (s.take (wB six) ++ List.replicate (wB six - (s.take (wB six)).length) (0 : UInt8)).length = wB six := by
    rw [List.length_append, List.length_replicate]
    have : (s.take (wB six)).length ≤ wB six := by rw [List.length_take]; omega
    omega
  rw [hl] at h
  refine Nat.lt_of_lt_of_le h ?_
  rw [Nat.zero_add, Nat.one_mul]
  cases six <;> decide
theorem fAd_lt (six : Bool) (k : Nat) (st : Option (List UInt8)) : (part 0 (fAd six k) st).1 < 2 ^ 128 := by
  cases st with
  | none => show 0 < 2 ^ 128; decide
  | some l =>
    cases hs : fAd six k l with
    | none => rw [part_no hs]; decide
    | some p =>
      obtain ⟨v, r⟩ := p
      rw [part_yes hs]
      unfold fAd at hs
      split at hs
      · cases hs
      · simp at hs; show v < _; rw [← hs.1]; exact gaN_lt _ _
theorem rdP_fit (st : Option (List UInt8)) : FitP (rdP st).1 := by
  have h1 := f1_le (part false fSix st).2
  refine ⟨⟨?_, ?_⟩, fAd_lt _ _ _⟩
  · show -9223372036854775808 ≤ ((part 0 f1 (part false fSix st).2).1 : Int); omega
  · show ((part 0 f1 (part false fSix st).2).1 : Int) ≤ _; omega
theorem pf_fit (s : List UInt8) : FitP (rdP (some s)).1 := rdP_fit _
theorem rdA_fit (st : Option (List UInt8)) : FitA (rdA st).1 := by
  have h1 := f1_le st
  have h2 := fI_le (part (0 : Nat) f1 st).2
  unfold rdA FitA
  split
  · refine ⟨?_, ?_, ?_⟩ <;> simp only <;> omega
  · refine ⟨?_, ?_, ?_⟩ <;> simp only <;> omega
theorem rdN_le (st : Option (List UInt8)) : (part (0 : Nat) rdN st).1 < 18446744073709551616 := by
  cases st with
  | none => show 0 < _; omega
  | some l =>
    cases hs : rdN l with
    | none => rw [part_no hs]; show 0 < _; omega
    | some p =>
      obtain ⟨v, r⟩ := p
      rw [part_yes hs]
      exact (rdN_back hs).1
theorem rdRest_fit (k : Nat) (a : Int) (b : Nat) (c : Int) (st : Option (List UInt8)) (h1 : k ≤ 255) (h2 : 0 ≤ a ∧ a ≤ 9223372036854775807) (h3 : b < 18446744073709551616) (h4 : 0 ≤ c ∧ c ≤ 9223372036854775807) : FitE (rdRest k a b c st).1 := by
  have hp := rdP_fit st
  have ha := rdA_fit (rdP st).2
  have hi := fI_le st
  have hj := fI_le (part (0 : Int) fI st).2
  unfold rdRest
  have hz : FitA zeroA := ⟨by decide, by decide, by decide⟩
  have hzn : zeroPf.n < 2 ^ 128 := by decide
  have hzl : -9223372036854775808 ≤ zeroPf.len ∧ zeroPf.len ≤ 9223372036854775807 := by decide
  split
  · exact ⟨by simp only; omega, by simp only; omega, by simp only; omega, by simp only; omega, hp.1, hp.2, ha, by simp only; omega, by simp only; omega⟩
  · split
    · exact ⟨by simp only; omega, by simp only; omega, by simp only; omega, by simp only; omega, hp.1, hp.2, hz, by simp only; omega, by simp only; omega⟩
    · split
      · exact ⟨by simp only; omega, by simp only; omega, by simp only; omega, by simp only; omega, hzl, hzn, hz, by simp only; omega, by simp only; omega⟩
      · split
        · exact ⟨by simp only; omega, by simp only; omega, by simp only; omega, by simp only; omega, hzl, hzn, hz, by simp only; omega, by simp only; omega⟩
        · exact ⟨by simp only; omega, by simp only; omega, by simp only; omega, by simp only; omega, hzl, hzn, hz, by simp only; omega, by simp only; omega⟩
theorem ev_fit (s : List UInt8) : FitE (rdE (some s)).1 := rdRest_fit _ _ _ _ _ (f1_le _) (fI_le _) (rdN_le _) (fI_le _)
theorem ac_fit (s : List UInt8) : FitA (rdA (some s)).1 := rdA_fit _
set_option maxHeartbeats 4000000 in
theorem first_pf (s : List UInt8) (w : World) (hs : (s.length : Int) ≤ 200000000000000) :
    Calls Try.prog 35 #[.string ⟨s.toArray⟩, .func (.func 36) #[] #[], .func (.func 32) #[] #[]] w fun e w' => e = .returned (.tuple #[pfV (firstP rdP okP zeroPf s).1, .string ⟨(firstP rdP okP zeroPf s).2.1.toArray⟩, .int .i64 (firstP rdP okP zeroPf s).2.2]) ∧ Below w.heap.size w w' := by
  have hfit : FitP (rdP (some s)).1 := pf_fit s
  obtain ⟨X, hX⟩ : ∃ X, X = (w.alloc (.cells #[.bool false, .int .u64 0, .int .u64 0, .int .i64 0] 27)).alloc (.cells #[.string ⟨s.toArray⟩, .bool false] 82) := ⟨_, rfl⟩
  have hbx : Below w.heap.size w X := by rw [hX]; exact below_new (below_new (Below.refl _ _) _) _
  obtain ⟨rx, sx⟩ := row_new2 w [.bool false, .int .u64 0, .int .u64 0, .int .i64 0] [.string ⟨s.toArray⟩, .bool false] 27 82
  rw [show (w.alloc (.cells ([.bool false, .int .u64 0, .int .u64 0, .int .i64 0] : List Value).toArray 27)).alloc (.cells ([.string ⟨s.toArray⟩, .bool false] : List Value).toArray 82) = X from hX.symm] at rx sx
  have cr := readPrefix_any (w.heap.size + 1) (some s) X sx (fun l e => by injection e with e; subst e; omega)
  have cc := fun W => pfcheck (rdP (some s)).1 W hfit
  have HP : Hid (firstP rdP okP zeroPf s = match (rdP (some s)).2 with | none => (zeroPf, [], 7) | some r => if okP (rdP (some s)).1 then ((rdP (some s)).1, r, 0) else (zeroPf, [], 7)) := by show _ = _; unfold firstP; cases (rdP (some s)).2 <;> rfl
  generalize firstP rdP okP zeroPf s = R at HP ⊢
  generalize rdP (some s) = Q at *
  obtain ⟨q, st⟩ := Q
  simp only at *
  clear hfit
  generalize hob : okP q = B at *
  have hcb : checkP q = if B = true then 0 else 2 := by rw [← hob]; rfl
  rw [hcb] at cc
  clear hob hcb
  obtain ⟨s6, n, ln⟩ := q
  unfold pfV at cr cc
  simp only at *
  obtain ⟨x0, x1, xf⟩ := cells2 sx
  have hl1 := RowAt.lt sx
  go_enter Try.func35, Try.ntmps35
  go_upto_region 2 with fail
  rw [← hX]
  clear hX
  go_wp2_with fail
  go_at_call 36; refine cr.mono ?_; rintro e w1 ⟨rfl, hr1, hg1⟩
  have rx1 := gkeep rx hg1 (by omega)
  have hB1 : Below w.heap.size w w1 := Addr.gfinal hbx hg1 (by omega)
  clear cr x0 x1 xf rx sx
  go_upto_region 3 with fail
  obtain ⟨Y, hY⟩ : ∃ Y, Y = w1.alloc (.cells #[.bool s6, .int .u64 (hiN n : Int), .int .u64 (loN n : Int), .int .i64 ln] 27) := ⟨_, rfl⟩
  have hbY : Below w1.heap.size w1 Y := by rw [hY]; exact below_new (Below.refl _ _) _
  have tY : RowAt Y w1.heap.size [.bool s6, .int .u64 (hiN n : Int), .int .u64 (loN n : Int), .int .i64 ln] 27 := by rw [hY]; exact RowAt.new _ _ _
  rw [← hY]
  replace rx1 := RowAt.below rx1 hbY
  replace hr1 := rds_keep hr1 hbY
  replace hB1 := below2 hB1 hbY
  have hgt : w.heap.size + 1 < w1.heap.size := Nat.lt_of_lt_of_le hl1 hg1.size
  clear hY hbY hg1 hl1
  generalize w1.heap.size = t1 at tY hgt ⊢
  cases st with
  | none =>
    have HV : Hid (R = (zeroPf, [], 7)) := HP.out
    clear HP
    obtain ⟨l', hr1⟩ := hr1
    obtain ⟨x0, x1, xf⟩ := cells2 hr1
    obtain ⟨y0, y1, y2, y3, yf⟩ := cells4 rx1
    have hlx := RowAt.lt rx1
    go_wp2_with fail
    refine bodyPost_ret (v := .tuple #[.agg #[.bool false, .int .u64 0, .int .u64 0, .int .i64 0], .string ⟨#[]⟩, .int .i64 7]) ?_ rfl ⟨by rw [HV.out]; rw [show pfV zeroPf = .agg #[.bool false, .int .u64 0, .int .u64 0, .int .i64 0] from pfV0], ?_⟩
    · rw [results_cell_tmp2 rfl]
      go_simp
    · repeat' (first | with_reducible exact hB1 | with_reducible apply below_new | with_reducible refine bset ?_ (by omega))
  | some r =>
    have hr1 : Rd Y (w.heap.size + 1) r false := hr1
    obtain ⟨x0, x1, xf⟩ := cells2 hr1
    obtain ⟨u0, u1, u2, u3, uf⟩ := cells4 tY
    cases B
    · have HV : Hid (R = (zeroPf, [], 7)) := HP.out
      clear HP
      simp only [Bool.false_eq_true, if_false] at cc
      go_wp2_with fail
      go_at_call 32; refine (cc _).mono ?_; rintro e w2 ⟨rfl, hb2⟩
      replace rx1 := RowAt.below rx1 hb2
      replace hB1 := below2 hB1 hb2
      obtain ⟨y0, y1, y2, y3, yf⟩ := cells4 rx1
      have hlx := RowAt.lt rx1
      clear u0 u1 u2 u3 uf x0 x1 xf
      go_wp2_with fail
      refine bodyPost_ret (v := .tuple #[.agg #[.bool false, .int .u64 0, .int .u64 0, .int .i64 0], .string ⟨#[]⟩, .int .i64 7]) ?_ rfl ⟨by rw [HV.out]; rw [show pfV zeroPf = .agg #[.bool false, .int .u64 0, .int .u64 0, .int .i64 0] from pfV0], ?_⟩
      · rw [results_cell_tmp2 rfl]
        go_simp
      · repeat' (first | with_reducible exact hB1 | with_reducible apply below_new | with_reducible refine bset ?_ (by omega))
    · have HV : Hid (R = (⟨s6, n, ln⟩, r, 0)) := HP.out
      clear HP
      simp only [if_true] at cc
      go_wp2_with fail
      go_at_call 32; refine (cc _).mono ?_; rintro e w2 ⟨rfl, hb2⟩
      replace rx1 := RowAt.below rx1 hb2
      replace hr1 := RowAt.below hr1 hb2
      replace tY := RowAt.below tY hb2
      replace hB1 := below2 hB1 hb2
      clear u0 u1 u2 u3 uf x0 x1 xf
      obtain ⟨x0, x1, xf⟩ := cells2 hr1
      obtain ⟨y0, y1, y2, y3, yf⟩ := cells4 rx1
      obtain ⟨u0, u1, u2, u3, uf⟩ := cells4 tY
      have hlx := RowAt.lt rx1
      have hlt := RowAt.lt tY
      have hlr := RowAt.lt hr1
      clear hr1 rx1 tY
      go_wp2_with fail
      go_region
      go_wp2_with fail
      refine bodyPost_ret (v := .tuple #[.agg #[.bool s6, .int .u64 (hiN n : Int), .int .u64 (loN n : Int), .int .i64 ln], .string ⟨r.toArray⟩, .int .i64 0]) ?_ rfl ⟨by rw [HV.out]; rfl, ?_⟩
      · rw [results_cell_tmp2 rfl]
        go_simp
      · apply below_drew
        repeat' (first | with_reducible exact hB1 | with_reducible apply below_new | with_reducible refine bset ?_ (by omega))
set_option maxHeartbeats 4000000 in
theorem first_ac (s : List UInt8) (w : World) (hs : (s.length : Int) ≤ 200000000000000) :
    Calls Try.prog 43 #[.string ⟨s.toArray⟩, .func (.func 44) #[] #[], .func (.func 41) #[] #[]] w fun e w' => e = .returned (.tuple #[acV (firstP rdA okA zeroA s).1, .string ⟨(firstP rdA okA zeroA s).2.1.toArray⟩, .int .i64 (firstP rdA okA zeroA s).2.2]) ∧ Below w.heap.size w w' := by
  have hfit : FitA (rdA (some s)).1 := ac_fit s
  obtain ⟨X, hX⟩ : ∃ X, X = (w.alloc (.cells #[.int .u8 0, .int .i64 0] 30)).alloc (.cells #[.string ⟨s.toArray⟩, .bool false] 82) := ⟨_, rfl⟩
  have hbx : Below w.heap.size w X := by rw [hX]; exact below_new (below_new (Below.refl _ _) _) _
  obtain ⟨rx, sx⟩ := row_new2 w [.int .u8 0, .int .i64 0] [.string ⟨s.toArray⟩, .bool false] 30 82
  rw [show (w.alloc (.cells ([.int .u8 0, .int .i64 0] : List Value).toArray 30)).alloc (.cells ([.string ⟨s.toArray⟩, .bool false] : List Value).toArray 82) = X from hX.symm] at rx sx
  have cr := readAction_any (w.heap.size + 1) (some s) X sx (fun l e => by injection e with e; subst e; omega)
  have cc := fun W => checkAction_any (rdA (some s)).1 W hfit
  have HP : Hid (firstP rdA okA zeroA s = match (rdA (some s)).2 with | none => (zeroA, [], 7) | some r => if okA (rdA (some s)).1 then ((rdA (some s)).1, r, 0) else (zeroA, [], 7)) := by show _ = _; unfold firstP; cases (rdA (some s)).2 <;> rfl
  generalize firstP rdA okA zeroA s = R at HP ⊢
  generalize rdA (some s) = Q at *
  obtain ⟨q, st⟩ := Q
  simp only at *
  clear hfit
  generalize hob : okA q = B at *
  have hcb : checkA q = if B = true then 0 else 2 := by rw [← hob]; rfl
  rw [hcb] at cc
  clear hob hcb
  obtain ⟨ak, ai⟩ := q
  unfold acV at cr cc
  simp only at *
  obtain ⟨x0, x1, xf⟩ := cells2 sx
  have hl1 := RowAt.lt sx
  go_enter Try.func43, Try.ntmps43
  go_upto_region 2 with fail
  rw [← hX]
  clear hX
  go_wp2_with fail
  go_at_call 44; refine cr.mono ?_; rintro e w1 ⟨rfl, hr1, hg1⟩
  have rx1 := gkeep rx hg1 (by omega)
  have hB1 : Below w.heap.size w w1 := Addr.gfinal hbx hg1 (by omega)
  clear cr x0 x1 xf rx sx
  go_upto_region 3 with fail
  obtain ⟨Y, hY⟩ : ∃ Y, Y = w1.alloc (.cells #[.int .u8 (ak : Int), .int .i64 ai] 30) := ⟨_, rfl⟩
  have hbY : Below w1.heap.size w1 Y := by rw [hY]; exact below_new (Below.refl _ _) _
  have tY : RowAt Y w1.heap.size [.int .u8 (ak : Int), .int .i64 ai] 30 := by rw [hY]; exact RowAt.new _ _ _
  rw [← hY]
  replace rx1 := RowAt.below rx1 hbY
  replace hr1 := rds_keep hr1 hbY
  replace hB1 := below2 hB1 hbY
  have hgt : w.heap.size + 1 < w1.heap.size := Nat.lt_of_lt_of_le hl1 hg1.size
  clear hY hbY hg1 hl1
  generalize w1.heap.size = t1 at tY hgt ⊢
  cases st with
  | none =>
    have HV : Hid (R = (zeroA, [], 7)) := HP.out
    clear HP
    obtain ⟨l', hr1⟩ := hr1
    obtain ⟨x0, x1, xf⟩ := cells2 hr1
    obtain ⟨y0, y1, yf⟩ := cells2 rx1
    have hlx := RowAt.lt rx1
    go_wp2_with fail
    refine bodyPost_ret (v := .tuple #[.agg #[.int .u8 0, .int .i64 0], .string ⟨#[]⟩, .int .i64 7]) ?_ rfl ⟨by rw [HV.out]; rfl, ?_⟩
    · rw [results_cell_tmp2 rfl]
      go_simp
    · repeat' (first | with_reducible exact hB1 | with_reducible apply below_new | with_reducible refine bset ?_ (by omega))
  | some r =>
    have hr1 : Rd Y (w.heap.size + 1) r false := hr1
    obtain ⟨x0, x1, xf⟩ := cells2 hr1
    obtain ⟨u0, u1, uf⟩ := cells2 tY
    cases B
    · have HV : Hid (R = (zeroA, [], 7)) := HP.out
      clear HP
      simp only [Bool.false_eq_true, if_false] at cc
      go_wp2_with fail
      go_at_call 41; refine (cc _).mono ?_; rintro e w2 ⟨rfl, hb2⟩
      replace rx1 := RowAt.below rx1 hb2
      replace hB1 := below2 hB1 hb2
      obtain ⟨y0, y1, yf⟩ := cells2 rx1
      have hlx := RowAt.lt rx1
      clear u0 u1 uf x0 x1 xf
      go_wp2_with fail
      refine bodyPost_ret (v := .tuple #[.agg #[.int .u8 0, .int .i64 0], .string ⟨#[]⟩, .int .i64 7]) ?_ rfl ⟨by rw [HV.out]; rfl, ?_⟩
      · rw [results_cell_tmp2 rfl]
        go_simp
      · repeat' (first | with_reducible exact hB1 | with_reducible apply below_new | with_reducible refine bset ?_ (by omega))
    · have HV : Hid (R = (⟨ak, ai⟩, r, 0)) := HP.out
      clear HP
      simp only [if_true] at cc
      go_wp2_with fail
      go_at_call 41; refine (cc _).mono ?_; rintro e w2 ⟨rfl, hb2⟩
      replace rx1 := RowAt.below rx1 hb2
      replace hr1 := RowAt.below hr1 hb2
      replace tY := RowAt.below tY hb2
      replace hB1 := below2 hB1 hb2
      clear u0 u1 uf x0 x1 xf
      obtain ⟨x0, x1, xf⟩ := cells2 hr1
      obtain ⟨y0, y1, yf⟩ := cells2 rx1
      obtain ⟨u0, u1, uf⟩ := cells2 tY
      have hlx := RowAt.lt rx1
      have hlt := RowAt.lt tY
      have hlr := RowAt.lt hr1
      clear hr1 rx1 tY
      go_wp2_with fail
      go_region
      go_wp2_with fail
      refine bodyPost_ret (v := .tuple #[.agg #[.int .u8 (ak : Int), .int .i64 ai], .string ⟨r.toArray⟩, .int .i64 0]) ?_ rfl ⟨by rw [HV.out]; rfl, ?_⟩
      · rw [results_cell_tmp2 rfl]
        go_simp
      · apply below_drew
        repeat' (first | with_reducible exact hB1 | with_reducible apply below_new | with_reducible refine bset ?_ (by omega))
end Go.Proofs.Ytngomogoicdjpaa.Msg
