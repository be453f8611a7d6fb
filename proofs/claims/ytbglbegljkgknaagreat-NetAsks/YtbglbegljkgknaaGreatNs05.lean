/- The document's answer of routers: Check, Does, Hop. -/
import Derived.Test.YtbglbegljkgknaaGreatNq26
import Derived.Test.YtbglbegljkgknaaGreatNq20
import Derived.Test.YtbglbegljkgknaaGreatNs04
import Derived.Test.YtbglbegljkgknaaGreatNq11
set_option linter.unusedVariables false
namespace Go.Proofs.YtbglbegljkgknaaGreat.Fib
open Go.RowKit
open Go.Proofs.YtbglbegljkgknaaGreat.Addr (Pf hiN loN rightB RowAt below2 below_drew below_new RowAt.lt RowAt.cell RowAt.frozen RowAt.below RowAt.drew RowAt.new RowAt.alloc RowAt.set1 RowAt.far1 cells4 cells2 gset grefl bset gbelow gdrew RowAt.gkeep results_cell)
open Go.Proofs.YtbglbegljkgknaaGreat.Msg (Ev Ac okE FitE evV evC checkE FitA)
open Go.Proofs.YtbglbegljkgknaaGreat.Lk (Lk HasLks HasLks.keep FitL peerL okL)
open Go.Proofs.YtbglbegljkgknaaGreat.Tr (Rt HasRts HasRts.keep FitR longT rtA bestT okT)
set_option maxHeartbeats 4000000 in
set_option maxRecDepth 20000 in
theorem rcheck_any (R : Ro) (a b : Value) (w : World) (ha : HasRts w a R.rts) (hb : HasLks w b R.lks) (hf : ∀ x ∈ R.rts, FitR x) :
    Calls Tryz.prog 33 #[.agg #[.int .i64 R.id, .bool R.up, a, b]] w fun e w' => e = .returned (.int .i64 (checkRo R)) ∧ Below w.heap.size w w' := by
  obtain ⟨o2, m2, rfl, hm2⟩ := Lk.HasRow.slice ha
  obtain ⟨o3, m3, rfl, hm3⟩ := Lk.HasRow.slice hb
  have c1 := fun W (h : HasRts W (.slice o2 R.rts.length m2) R.rts) => Tr.rcheck_any R.rts _ W h hf
  have c2 := fun W (h : HasLks W (.slice o3 R.lks.length m3) R.lks) => Lk.rcheck_any R.lks _ W h
  have hT : okT R.rts = true → R.rts.length ≤ 256 := fun h => ((Tr.okT_iff _).1 h).1
  have hL : okL R.lks = true → R.lks.length ≤ 32 := fun h => Lk.okL_len2 h
  have e1 : Tr.checkT R.rts = if okT R.rts then 0 else 2 := rfl
  have e2 : Lk.checkL R.lks = if okL R.lks then 0 else 2 := rfl
  have e3 : checkRo R = if (decide (0 ≤ R.id) && decide (R.id ≤ 1048576)) && okT R.rts && okL R.lks && (R.up || decide (R.rts.length + R.lks.length = 0)) then 0 else 2 := rfl
  rw [e1] at c1
  rw [e2] at c2
  generalize checkRo R = C at e3 ⊢
  obtain ⟨id, up, rts, lks⟩ := R
  simp only at ha hb c1 c2 hT hL e3 hm2 hm3
  generalize okT rts = kt at c1 hT e3
  generalize okL lks = kl at c2 hL e3
  generalize rts.length = n2 at *
  generalize lks.length = n3 at *
  have HC : Hid (C = if (decide (0 ≤ id) && decide (id ≤ 1048576)) && kt && kl && (up || decide (n2 + n3 = 0)) then 0 else 2) := e3
  clear e1 e2 e3 hf
  obtain ⟨X, hX⟩ : ∃ X, X = w.alloc (.cells #[.int .i64 id, .bool up, .slice o2 n2 m2, .slice o3 n3 m3] 51) := ⟨_, rfl⟩
  have hB : Below w.heap.size w X := by rw [hX]; exact below_new (Below.refl _ _) _
  have r0 : RowAt X w.heap.size [.int .i64 id, .bool up, .slice o2 n2 m2, .slice o3 n3 m3] 51 := by rw [hX]; exact RowAt.new _ _ _
  replace ha := ha.keep hB
  replace hb := hb.keep hB
  show Calls Tryz.prog 33 #[.agg #[.int .i64 id, .bool up, .slice o2 n2 m2, .slice o3 n3 m3]] w _
  by_cases h1 : id < 0
  · have HV : Hid (C = 2) := by show _ = _; rw [HC.out, decide_eq_false (by omega)]; rfl
    have hq : decide (id < 0) = true := decide_eq_true h1
    clear HC h1
    go_enter Tryz.func33, Tryz.ntmps33
    go_upto_region 1 with fail
    rw [← hX]
    clear hX
    obtain ⟨p0, p1, p2, p3, pf0⟩ := cells4 r0
    go_wp2_with fail
    go_ret
    exact ⟨by rw [HV.out]; rfl, hB⟩
  have hq1 : decide (id < 0) = false := decide_eq_false h1
  by_cases h2 : 1048576 < id
  · have HV : Hid (C = 2) := by show _ = _; rw [HC.out, decide_eq_false (show ¬ id ≤ 1048576 by omega)]; simp
    have hq2 : decide (1048576 < id) = true := decide_eq_true h2
    clear HC h1 h2
    go_enter Tryz.func33, Tryz.ntmps33
    go_upto_region 1 with fail
    rw [← hX]
    clear hX
    obtain ⟨p0, p1, p2, p3, pf0⟩ := cells4 r0
    go_wp2_with fail
    go_ret
    exact ⟨by rw [HV.out]; rfl, hB⟩
  have hq2 : decide (1048576 < id) = false := decide_eq_false h2
  have HD : Hid (C = if kt && kl && (up || decide (n2 + n3 = 0)) then 0 else 2) := by show _ = _; rw [HC.out, decide_eq_true (show 0 ≤ id by omega), decide_eq_true (show id ≤ 1048576 by omega)]; rfl
  clear HC h1 h2
  go_enter Tryz.func33, Tryz.ntmps33
  go_upto_region 1 with fail
  rw [← hX]
  clear hX
  obtain ⟨p0, p1, p2, p3, pf0⟩ := cells4 r0
  go_wp2_with fail
  clear p0 p1 p2 p3 pf0
  go_at_call 59; refine (c1 _ ha).mono ?_; rintro e w1 ⟨rfl, hb1⟩
  replace hB := below2 hB hb1
  replace hb := hb.keep hb1
  replace r0 := RowAt.below r0 hb1
  clear hb1 c1 ha
  cases kt
  · have HV : Hid (C = 2) := HD.out
    clear HD
    go_wp2_with fail
    go_ret
    exact ⟨by rw [HV.out]; rfl, hB⟩
  obtain ⟨p0, p1, p2, p3, pf0⟩ := cells4 r0
  go_wp2_with fail
  clear p0 p1 p2 p3 pf0
  go_at_call 60; refine (c2 _ hb).mono ?_; rintro e w2 ⟨rfl, hb2⟩
  replace hB := below2 hB hb2
  replace r0 := RowAt.below r0 hb2
  clear hb2 c2 hb
  cases kl
  · have HV : Hid (C = 2) := HD.out
    clear HD
    go_wp2_with fail
    go_ret
    exact ⟨by rw [HV.out]; rfl, hB⟩
  replace hT := hT (by first | rfl | trivial)
  replace hL := hL (by first | rfl | trivial)
  have hw : IntKind.i64.wrap ((n2 : Int) + (n3 : Int)) = (n2 : Int) + (n3 : Int) := by rw [IntKind.wrap_i64]; omega
  obtain ⟨p0, p1, p2, p3, pf0⟩ := cells4 r0
  cases up
  · by_cases hs : n2 + n3 = 0
    · have HV : Hid (C = 0) := by show _ = _; rw [HD.out, decide_eq_true hs]; rfl
      have hsb : decide ((0 : Int) < (n2 : Int) + (n3 : Int)) = false := decide_eq_false (by omega)
      clear HD hs
      go_wp2_with fail
      go_ret
      exact ⟨by rw [HV.out]; rfl, hB⟩
    · have HV : Hid (C = 2) := by show _ = _; rw [HD.out, decide_eq_false hs]; rfl
      have hsb : decide ((0 : Int) < (n2 : Int) + (n3 : Int)) = true := decide_eq_true (by omega)
      clear HD hs
      go_wp2_with fail
      go_ret
      exact ⟨by rw [HV.out]; rfl, hB⟩
  · have HV : Hid (C = 0) := HD.out
    clear HD
    go_wp2_with fail
    go_ret
    exact ⟨by rw [HV.out]; rfl, hB⟩
set_option maxHeartbeats 8000000 in
set_option maxRecDepth 20000 in
theorem does_walk (id : Int) (up : Bool) (rts : List Rt) (lks : List Lk) (o2 o3 : Option Addr) (n2 n3 m2 m3 : Nat) (six : Bool) (ah al : Int) (x0 : Bool) (x1 x2 x3 x4 x5 : Int) (is : Bool) (D : Nat × Int) (w : World) (ha0 : HasRts w (.slice o2 n2 m2) rts) (hb0 : HasLks w (.slice o3 n3 m3) lks) (hn3 : n3 = lks.length) (hm3 : (n3 : Int) ≤ 9223372036854775807)
    (cB : ∀ W, HasRts W (.slice o2 n2 m2) rts → Calls Tryz.prog 97 #[.slice o2 n2 m2, .bool six, .agg #[.int .u64 ah, .int .u64 al]] W fun e w' => e = .returned (.tuple #[.agg #[.bool x0, .int .u64 x1, .int .u64 x2, .int .i64 x3, .int .u8 x4, .int .i64 x5], .bool is]) ∧ Below W.heap.size W w')
    (H0 : is = false → Hid (D = (0, 0))) (H2 : is = true → x4 = 2 → Hid (D = (2, 0))) (H3 : is = true → x4 = 3 → Hid (D = (3, 0))) (HF : is = true → ¬ x4 = 2 → ¬ x4 = 3 → Hid (∀ k (hk : k < lks.length), lks[k].iface = x5 → (∀ j (hj : j < lks.length), j < k → lks[j].iface ≠ x5) → D = (1, lks[k].peer))) (HN : is = true → ¬ x4 = 2 → ¬ x4 = 3 → Hid ((∀ y ∈ lks, y.iface ≠ x5) → D = (0, 0))) :
    Calls Tryz.prog 70 #[.agg #[.int .i64 id, .bool up, .slice o2 n2 m2, .slice o3 n3 m3], .bool six, .agg #[.int .u64 ah, .int .u64 al]] w fun e w' => e = .returned (.agg #[.int .u8 (D.1 : Int), .int .i64 D.2]) ∧ Below w.heap.size w w' := by
  have HN3 : Hid (n3 = lks.length) := hn3
  clear hn3
  have hB := Below.refl w.heap.size w
  go_enter Tryz.func70, Tryz.ntmps70
  obtain ⟨Y1, hY⟩ : ∃ Y, Y = (((w.alloc (.cells #[.int .i64 id, .bool up, .slice o2 n2 m2, .slice o3 n3 m3] 51)).alloc (.cells #[.int .u64 ah, .int .u64 al] 31)).alloc (.cells #[.int .u8 0, .int .i64 0] 56)) := ⟨_, rfl⟩
  have hbY : Below w.heap.size w Y1 := by rw [hY]; exact below_new (below_new (below_new (Below.refl _ _) _) _) _
  have hle : w.heap.size ≤ w.heap.size := hB.size
  obtain ⟨gr, hgr⟩ : ∃ g, g = w.heap.size := ⟨_, rfl⟩
  have rr : RowAt Y1 gr [.int .i64 id, .bool up, .slice o2 n2 m2, .slice o3 n3 m3] 51 := by
    have h := ((RowAt.new w [.int .i64 id, .bool up, .slice o2 n2 m2, .slice o3 n3 m3] 51).alloc (.cells #[.int .u64 ah, .int .u64 al] 31)).alloc (.cells #[.int .u8 0, .int .i64 0] 56)
    rw [hgr, hY]; exact h
  have ler : w.heap.size ≤ gr := by omega
  obtain ⟨ga, hga⟩ : ∃ g, g = w.heap.size + 1 := ⟨_, rfl⟩
  have ra : RowAt Y1 ga [.int .u64 ah, .int .u64 al] 31 := by
    have h := (RowAt.new (w.alloc (.cells #[.int .i64 id, .bool up, .slice o2 n2 m2, .slice o3 n3 m3] 51)) [.int .u64 ah, .int .u64 al] 31).alloc (.cells #[.int .u8 0, .int .i64 0] 56)
    simp only [World.size_alloc] at h
    rw [hga, hY]; exact h
  have lea : w.heap.size ≤ ga := by omega
  have nera : gr ≠ ga := by omega
  obtain ⟨gh, hgh⟩ : ∃ g, g = w.heap.size + 1 + 1 := ⟨_, rfl⟩
  have rh : RowAt Y1 gh [.int .u8 0, .int .i64 0] 56 := by
    have h := RowAt.new ((w.alloc (.cells #[.int .i64 id, .bool up, .slice o2 n2 m2, .slice o3 n3 m3] 51)).alloc (.cells #[.int .u64 ah, .int .u64 al] 31)) [.int .u8 0, .int .i64 0] 56
    simp only [World.size_alloc] at h
    rw [hgh, hY]; exact h
  have leh : w.heap.size ≤ gh := by omega
  have nerh : gr ≠ gh := by omega
  have neah : ga ≠ gh := by omega
  replace ha0 := ha0.keep hbY
  replace hb0 := hb0.keep hbY
  replace hB := below2 hB hbY
  go_upto_region 1 with fail
  rw [← hY, ← hgh, ← hga, ← hgr]
  clear hY hbY hle hgr hga hgh
  obtain ⟨r0, r1, r2, r3, rf⟩ := cells4 rr
  obtain ⟨a0, a1, af⟩ := cells2 ra
  go_wp2_with fail
  clear r0 r1 r2 r3 rf a0 a1 af
  go_at_call 97; refine (cB _ ha0).mono ?_; rintro e w2 ⟨rfl, hb⟩
  replace rr := RowAt.below rr hb
  replace ra := RowAt.below ra hb
  replace rh := RowAt.below rh hb
  replace ha0 := ha0.keep hb
  replace hb0 := hb0.keep hb
  replace hB := below2 hB hb
  clear hb
  obtain ⟨Y3, hY⟩ : ∃ Y, Y = (w2.alloc (.cells #[.bool x0, .int .u64 x1, .int .u64 x2, .int .i64 x3, .int .u8 x4, .int .i64 x5] 105)) := ⟨_, rfl⟩
  have hbY : Below w2.heap.size w2 Y3 := by rw [hY]; exact below_new (Below.refl _ _) _
  have hle : w.heap.size ≤ w2.heap.size := hB.size
  obtain ⟨gx, hgx⟩ : ∃ g, g = w2.heap.size := ⟨_, rfl⟩
  have rx : RowAt Y3 gx [.bool x0, .int .u64 x1, .int .u64 x2, .int .i64 x3, .int .u8 x4, .int .i64 x5] 105 := by
    have h := RowAt.new w2 [.bool x0, .int .u64 x1, .int .u64 x2, .int .i64 x3, .int .u8 x4, .int .i64 x5] 105
    rw [hgx, hY]; exact h
  have lex : w.heap.size ≤ gx := by omega
  have nerx : gr ≠ gx := by have := RowAt.lt rr; omega
  have neax : ga ≠ gx := by have := RowAt.lt ra; omega
  have nehx : gh ≠ gx := by have := RowAt.lt rh; omega
  replace rr := RowAt.below rr hbY
  replace ra := RowAt.below ra hbY
  replace rh := RowAt.below rh hbY
  replace ha0 := ha0.keep hbY
  replace hb0 := hb0.keep hbY
  replace hB := below2 hB hbY
  go_upto_region 2 with fail
  rw [← hY, ← hgx]
  clear hY hbY hle hgx
  clear ra ha0
  cases is
  · have HV := H0 rfl
    clear H0 H2 H3 HF HN
    obtain ⟨h0, h1, hf⟩ := cells2 rh
    go_wp2_with fail
    (try simp only [Exit.inBlock, Exit.then])
    refine bodyPost_ret (v := .agg #[.int .u8 0, .int .i64 0]) ?_ rfl ⟨by rw [HV.out]; rfl, ?_⟩
    · rw [results_cell rfl]
      go_simp
    · exact set2_bl hB leh _ _
  replace H2 := H2 rfl
  replace H3 := H3 rfl
  replace HF := HF rfl
  replace HN := HN rfl
  by_cases h2 : x4 = 2
  · have HV := H2 h2
    clear H0 H2 H3 HF HN
    subst h2
    obtain ⟨h0, h1, hf⟩ := cells2 rh
    have x0 := RowAt.cell rx 0
    have x1 := RowAt.cell rx 1
    have x2 := RowAt.cell rx 2
    have x3 := RowAt.cell rx 3
    have x4 := RowAt.cell rx 4
    have x5 := RowAt.cell rx 5
    have xf := RowAt.frozen rx
    simp only [List.getElem?_cons_succ, List.getElem?_cons_zero] at x0 x1 x2 x3 x4 x5
    go_wp2_with fail
    (try simp only [Exit.inBlock, Exit.then])
    refine bodyPost_ret (v := .agg #[.int .u8 2, .int .i64 0]) ?_ rfl ⟨by rw [HV.out]; rfl, ?_⟩
    · rw [results_cell rfl]
      go_simp
    · exact set2_bl hB leh _ _
  by_cases h3 : x4 = 3
  · have HV := H3 h3
    clear H0 H2 H3 HF HN
    subst h3
    obtain ⟨h0, h1, hf⟩ := cells2 rh
    have x0 := RowAt.cell rx 0
    have x1 := RowAt.cell rx 1
    have x2 := RowAt.cell rx 2
    have x3 := RowAt.cell rx 3
    have x4 := RowAt.cell rx 4
    have x5 := RowAt.cell rx 5
    have xf := RowAt.frozen rx
    simp only [List.getElem?_cons_succ, List.getElem?_cons_zero] at x0 x1 x2 x3 x4 x5
    go_wp2_with fail
    (try simp only [Exit.inBlock, Exit.then])
    refine bodyPost_ret (v := .agg #[.int .u8 3, .int .i64 0]) ?_ rfl ⟨by rw [HV.out]; rfl, ?_⟩
    · rw [results_cell rfl]
      go_simp
    · exact set2_bl hB leh _ _
  replace HF := HF h2 h3
  replace HN := HN h2 h3
  have hx2 : (x4 == 2) = false := beq_eq_false_iff_ne.2 h2
  have hx3 : (x4 == 3) = false := beq_eq_false_iff_ne.2 h3
  clear H0 H2 H3 h2 h3
  obtain ⟨r0, r1, r2, r3, rf⟩ := cells4 rr
  have x0 := RowAt.cell rx 0
  have x1 := RowAt.cell rx 1
  have x2 := RowAt.cell rx 2
  have x3 := RowAt.cell rx 3
  have x4 := RowAt.cell rx 4
  have x5 := RowAt.cell rx 5
  have xf := RowAt.frozen rx
  simp only [List.getElem?_cons_succ, List.getElem?_cons_zero] at x0 x1 x2 x3 x4 x5
  go_wp2_with fail
  clear r0 r1 r2 r3 rf x0 x1 x2 x3 x4 x5 xf
  go_loopw [35] (fun i wr => ∃ k : Nat, k ≤ n3 ∧ i = .int .i64 k ∧ Hid (Below Y3.heap.size Y3 wr ∧ ∀ j (h : j < lks.length), j < k → lks[j].iface ≠ x5)) (fun i _ => n3 - (intOf i).toNat)
  case atStart => exact ⟨0, by omega, rfl, Below.refl _ _, fun j h h' => by omega⟩
  case round =>
    obtain ⟨k, hk, rfl, HI⟩ := hrel
    have hbl := HI.out.1
    by_cases hlt : k < n3
    · have hkz : k < lks.length := by rw [← HN3.out]; exact hlt
      obtain ⟨g1, i1, rfl, hgl, l0, l1⟩ := Lk.HasLks.cell (hb0.keep hbl) k hkz
      obtain ⟨q0, hq0⟩ : ∃ p, p = lks[k].iface := ⟨_, rfl⟩
      obtain ⟨q1, hq1⟩ : ∃ p, p = lks[k].peer := ⟨_, rfl⟩
      have HK : Hid (q0 = lks[k].iface ∧ q1 = lks[k].peer) := ⟨hq0, hq1⟩
      rw [← hq0] at l0
      rw [← hq1] at l1
      clear hq0 hq1
      have hki : (k : Int) < (n3 : Int) := by omega
      obtain ⟨Y, hY⟩ : ∃ Y, Y = wr.alloc (.cells #[.int .i64 q0, .int .i64 q1] 108) := ⟨_, rfl⟩
      have hbY : Below wr.heap.size wr Y := by rw [hY]; exact below_new (Below.refl _ _) _
      have rY : RowAt Y wr.heap.size [.int .i64 q0, .int .i64 q1] 108 := by rw [hY]; exact RowAt.new _ _ _
      go_upto_region 11 with fail
      rw [← hY]
      clear hY l0 l1
      have hbn : Below Y3.heap.size Y3 Y := below2 hbl hbY
      obtain ⟨y0, y1, yf⟩ := cells2 rY
      obtain ⟨h0, h1, hf0⟩ := cells2 (RowAt.below rh hbn)
      have s5 := RowAt.cell (RowAt.below rx hbn) 5
      simp only [List.getElem?_cons_succ, List.getElem?_cons_zero] at s5
      have hBn := below2 hB hbn
      by_cases hqq : q0 = x5
      · have HV : Hid (D = (1, q1)) := by
          show _ = _
          rw [HF.out k hkz (HK.out.1.symm.trans hqq) HI.out.2, HK.out.2]
        have hqb : (q0 == x5) = true := by simpa using hqq
        clear hqq HK HF HN HI
        go_wp2_with fail
        (try simp only [Exit.inBlock, Exit.then])
        refine bodyPost_ret (v := .agg #[.int .u8 1, .int .i64 q1]) ?_ rfl ⟨by rw [HV.out]; rfl, ?_⟩
        · rw [results_cell rfl]
          go_simp
        · exact set2_bl hBn leh _ _
      · have hne : lks[k].iface ≠ x5 := fun h => hqq (HK.out.1.trans h)
        have hqb : (q0 == x5) = false := by simpa using hqq
        clear hqq HK
        go_wp2_with fail
        go_roundw
        case rel => exact ⟨k + 1, by omega, by go_num, hbn, fun j h h' => by
          rcases Nat.lt_or_ge j k with h9 | h9
          · exact HI.out.2 j h h9
          · have : j = k := by omega
            subst this; exact hne⟩
        case measure => simp [intOf]; omega
    · have HV : Hid (D = (0, 0)) := HN.out (fun y hy => by
        obtain ⟨j, hj, rfl⟩ := List.getElem_of_mem hy
        exact HI.out.2 j hj (by have := HN3.out; omega))
      have hkf : decide ((k : Int) < (n3 : Int)) = false := decide_eq_false (by omega)
      clear HF HN HI
      have hBn := below2 hB hbl
      obtain ⟨h0, h1, hf0⟩ := cells2 (RowAt.below rh hbl)
      go_wp2_with fail
      (try simp only [Exit.inBlock, Exit.then])
      refine bodyPost_ret (v := .agg #[.int .u8 0, .int .i64 0]) ?_ rfl ⟨by rw [HV.out]; rfl, ?_⟩
      · rw [results_cell rfl]
        go_simp
      · exact set2_bl hBn leh _ _
theorem find_at {l : List Lk} {i : Int} {k : Nat} (hk : k < l.length) (h : l[k].iface = i) (h2 : ∀ j (hj : j < l.length), j < k → l[j].iface ≠ i) : Lk.findL l i = some l[k] := by
  unfold Lk.findL
  rw [List.find?_eq_some_iff_getElem]
  refine ⟨by simpa using h, k, hk, rfl, fun j hj => ?_⟩
  have := h2 j (by omega) hj
  simpa using this
theorem rdoes_any (R : Ro) (six : Bool) (a : Nat) (u v : Value) (w : World) (ha : HasRts w u R.rts) (hb : HasLks w v R.lks) (hf : FitRo R) (hn : a < 2 ^ 128) (hok : okRo R = true) (hr : rightB six a = true) :
    Calls Tryz.prog 70 #[.agg #[.int .i64 R.id, .bool R.up, u, v], .bool six, .agg #[.int .u64 (hiN a : Int), .int .u64 (loN a : Int)]] w fun e w' => e = .returned (.agg #[.int .u8 ((doesRo R (longT R.rts six a).1.act).1 : Int), .int .i64 (doesRo R (longT R.rts six a).1.act).2]) ∧ Below w.heap.size w w' := by
  obtain ⟨o2, m2, rfl, hm2⟩ := Lk.HasRow.slice ha
  obtain ⟨o3, m3, rfl, hm3⟩ := Lk.HasRow.slice hb
  have cB := fun W (h : HasRts W (.slice o2 R.rts.length m2) R.rts) => Tr.best_any R.rts _ six a W h hf.rts hn
  obtain ⟨h1, h2, h3, h4, h5, h6⟩ := okRo_parts hok
  rw [Tr.best_long h2 hr] at cB
  simp only at cB
  unfold rtA at cB
  have hpe : ∀ i, sendsRo R i = match Lk.findL R.lks i with | some s => (1, s.peer) | none => (0, 0) := fun i => by
    unfold sendsRo peerL
    rw [h3]
    cases Lk.findL R.lks i <;> rfl
  have hact : (longT R.rts six a).2 = 0 → (longT R.rts six a).1 ∈ R.rts ∧ Msg.okA (longT R.rts six a).1.act = true := fun h => by
    have hL : longT R.rts six a = (Tr.lastR (R.rts.filter (Tr.hasR six a)), Tr.codeR (R.rts.filter (Tr.hasR six a))) := by unfold longT; rw [h2, hr]; rfl
    rw [hL] at h ⊢
    simp only at h ⊢
    have hne : R.rts.filter (Tr.hasR six a) ≠ [] := fun e => by rw [e] at h; cases h
    have hmem : Tr.lastR (R.rts.filter (Tr.hasR six a)) ∈ R.rts := by
      unfold Tr.lastR
      rw [List.getLast?_eq_some_getLast hne, Option.getD_some]
      exact (List.mem_filter.1 (List.getLast_mem hne)).1
    refine ⟨hmem, ?_⟩
    have := ((Tr.okT_iff _).1 h2).2.1 _ hmem
    unfold Tr.okR at this
    rw [Bool.and_eq_true] at this
    exact this.2
  have hno : ¬ (longT R.rts six a).2 = 0 → (longT R.rts six a).1.act.k = 0 := fun h => by
    have hL : longT R.rts six a = (Tr.lastR (R.rts.filter (Tr.hasR six a)), Tr.codeR (R.rts.filter (Tr.hasR six a))) := by unfold longT; rw [h2, hr]; rfl
    rw [hL] at h ⊢
    simp only at h ⊢
    unfold Tr.codeR at h
    unfold Tr.lastR
    cases hF : R.rts.filter (Tr.hasR six a) with
    | nil => rfl
    | cons x xs => rw [hF] at h; simp at h
  refine does_walk R.id R.up R.rts R.lks o2 o3 _ _ m2 m3 six _ _ _ _ _ _ _ _ _ _ w ha hb rfl (by omega) cB ?_ ?_ ?_ ?_ ?_
  · intro h
    have := hno (by simpa using h)
    show _ = _
    unfold doesRo
    rw [this]; rfl
  · intro h hk
    have hk : (longT R.rts six a).1.act.k = 2 := by omega
    show _ = _
    unfold doesRo
    rw [hk]; rfl
  · intro h hk
    have hk : (longT R.rts six a).1.act.k = 3 := by omega
    show _ = _
    unfold doesRo
    rw [hk]; rfl
  · intro h k2 k3 k hk e1 e2
    have h0 := (hact (by simpa using h)).2
    have hk1 : (longT R.rts six a).1.act.k = 1 := by
      unfold Msg.okA at h0
      simp only [Bool.and_eq_true, decide_eq_true_eq] at h0
      omega
    unfold doesRo
    rw [if_pos hk1, hpe, find_at hk e1 e2]
  · intro h k2 k3 e2
    have h0 := (hact (by simpa using h)).2
    have hk1 : (longT R.rts six a).1.act.k = 1 := by
      unfold Msg.okA at h0
      simp only [Bool.and_eq_true, decide_eq_true_eq] at h0
      omega
    unfold doesRo
    rw [if_pos hk1, hpe]
    have : Lk.findL R.lks (longT R.rts six a).1.act.i = none := by
      unfold Lk.findL
      rw [List.find?_eq_none]
      intro z hz
      simpa using e2 z hz
    rw [this]
end Go.Proofs.YtbglbegljkgknaaGreat.Fib
