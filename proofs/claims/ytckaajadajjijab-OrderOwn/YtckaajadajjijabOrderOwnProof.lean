/- For every seats, event and time: spoorlaw14.OrderOwn returns true, and changes nothing that was there. No condition. -/
import Derived.Test.YtckaajadajjijabRows
import Derived.Test.YtckaajadajjijabOrdLives
import Derived.Test.YtckaajadajjijabOrdOpen
import Derived.Test.YtckaajadajjijabMsgOpen
import Derived.Test.YtckaajadajjijabOrdOwnM
import Derived.ProofKit
import Derived.OpenShut
import Derived.ShutString
import Derived.SizedLaws
set_option linter.unusedVariables false
namespace Go.Proofs.Ytckaajadajjijab
namespace orderOwn
open Go.ChangeShapes Go.WideShapes Go.ChangeAt Go.RowKit
open Go.ChangeMaps (open_string shut_string)
open Go.Proofs.Ytckaajadajjijab.Msg (Ev okE checkE evV evC FitE echeck_any cells12' gkeep gsetO set1)
open Go.Proofs.Ytckaajadajjijab.Ord
open Go.Proofs.Ytckaajadajjijab.Addr (Pf okP checkP wideN firstN kP hiN loN adV pfV RowAt below2 below_drew below_new bset RowAt.lt RowAt.cell RowAt.frozen RowAt.below RowAt.drew RowAt.new RowAt.alloc gdrew gset gbelow galloc grefl cells2 cells4 results_cell Bl bl_ne wp_region_bl bl_call bl_same)

attribute [-go_sem] Builtin.append_
theorem own : ownKnob Try.prog.godebug = none := by kernel_rfl
theorem laidOut : laidOutB Try.prog = true := by kernel_rfl
set_option maxHeartbeats 16000000 in
set_option maxRecDepth 20000 in
theorem walks (o : Option Addr) (n cp : Nat) (l : List St) (c0 c1 c2 c3 c5 c6 c7 c8 c9 c10 c11 : Int) (cs : Bool) (h : Int) (w : World) (ck y no : Int) (m : List St) (s0 s1 s2 : Int) (su is : Bool) (al : List St)
    (hl : HasSts w (.slice o n cp) l) (HN : Hid (n = l.length)) (hcp : n ≤ cp ∧ cp ≤ 9223372036854775807)
    (k1 : ∀ W : World, Below w.heap.size w W → Calls Try.prog 12 #[.slice o n cp, .agg #[.int .u8 c0, .int .i64 c1, .int .u64 c2, .int .i64 c3, .bool cs, .int .u64 c5, .int .u64 c6, .int .i64 c7, .int .u8 c8, .int .i64 c9, .int .i64 c10, .int .i64 c11], .int .i64 h] W fun r w' => ∃ u, r = .returned (.tuple #[u, .int .i64 y]) ∧ (HasSts w' u m ∧ NewIn W u) ∧ Below W.heap.size W w')
    (k2 : ∀ W : World, Below w.heap.size w W → Calls Try.prog 17 #[.slice o n cp] W fun e w' => e = .returned (.int .i64 ck) ∧ Below W.heap.size W w')
    (k3 : ∀ W : World, Below w.heap.size w W → Calls Try.prog 14 #[.slice o n cp, .int .i64 c1] W fun e w' => e = .returned (.tuple #[.agg #[.int .i64 s0, .int .u64 s1, .int .i64 s2, .bool su], .bool is]) ∧ Below W.heap.size W w')
    (HMAY : ∀ (v : Value), Hid (∀ W : World, HasSts W v al → Calls Try.prog 19 #[v, .agg #[.int .u8 c0, .int .i64 c1, .int .u64 c2, .int .i64 c3, .bool cs, .int .u64 c5, .int .u64 c6, .int .i64 c7, .int .u8 c8, .int .i64 c9, .int .i64 c10, .int .i64 c11], .int .i64 h] W fun e w' => e = .returned (.int .i64 no) ∧ Below W.heap.size W w'))
    (H1 : ck ≠ 0 → Hid (y = 2)) (hn64 : ck = 0 → (n : Int) ≤ 64) (H2 : is = true → Hid (∃ s : St, al = [s] ∧ s0 = s.router ∧ s1 = (s.seq : Int) ∧ s2 = s.time ∧ su = s.up)) (H3 : is = false → Hid (al = []))
    (HNO2 : ck = 0 → Hid (no = y ∨ y = 8)) (HNO : ck = 0 → Hid (y = 0 → no = 0))
    (HY1 : ck = 0 → Hid (y ≠ 0 → y = 2 ∨ y = 1 ∨ m = l)) (HT1 : ck = 0 → Hid (y = 0 → Hid (∀ s ∈ l, isIn m s.router = true ∧ (s.router ≠ c1 → seatOf m s.router = s)))) (HC1 : ck = 0 → Hid (y = 0 → Hid (checkL m = 0))) (HLN : ck = 0 → Hid (y = 0 → m.length + al.length = n + 1)) :
    Calls Try.prog 5 #[.slice o n cp, .agg #[.int .u8 c0, .int .i64 c1, .int .u64 c2, .int .i64 c3, .bool cs, .int .u64 c5, .int .u64 c6, .int .i64 c7, .int .u8 c8, .int .i64 c9, .int .i64 c10, .int .i64 c11], .int .i64 h] w fun e w' => e = .returned (.bool true) ∧ Below w.heap.size w w' := by
  have hv := lives_any
  obtain ⟨X, hX⟩ : ∃ X, X = w.alloc (.cells #[.int .u8 c0, .int .i64 c1, .int .u64 c2, .int .i64 c3, .bool cs, .int .u64 c5, .int .u64 c6, .int .i64 c7, .int .u8 c8, .int .i64 c9, .int .i64 c10, .int .i64 c11] 39) := ⟨_, rfl⟩
  have hB : Below w.heap.size w X := by rw [hX]; exact below_new (Below.refl _ _) _
  have r0 : RowAt X w.heap.size [.int .u8 c0, .int .i64 c1, .int .u64 c2, .int .i64 c3, .bool cs, .int .u64 c5, .int .u64 c6, .int .i64 c7, .int .u8 c8, .int .i64 c9, .int .i64 c10, .int .i64 c11] 39 := by rw [hX]; exact RowAt.new _ _ _
  have HL : Hid (HasSts X (.slice o n cp) l) := hl.keep hB
  clear hl
  go_enter Try.func5, Try.ntmps5
  go_upto_region 1 with fail
  rw [← hX]
  clear hX
  obtain ⟨g0, hg0⟩ : ∃ g, g = w.heap.size := ⟨_, rfl⟩
  rw [← hg0] at r0 ⊢
  clear hg0
  go_wp2_with fail
  go_at_call 16; refine (hv _).mono ?_; rintro e w1 ⟨rfl, hb⟩
  replace r0 := RowAt.below r0 hb
  replace hB := below2 hB hb
  replace HL : Hid (HasSts _ (.slice o n cp) l) := HL.out.keep hb
  clear hb hv
  obtain ⟨⟨y0, y1, y2, y3, y4, y5⟩, ⟨y6, y7, y8, y9, y10, y11⟩, yf, hly⟩ := cells12' r0
  go_wp2_with fail
  go_at_call 12; refine (k1 _ hB).mono ?_; rintro e w2 ⟨u, rfl, ⟨hm, _⟩, hb⟩
  replace r0 := RowAt.below r0 hb
  replace hB := below2 hB hb
  replace HL : Hid (HasSts _ (.slice o n cp) l) := HL.out.keep hb
  obtain ⟨ou, cu, rfl, hcu1, hcu2⟩ := HasRow.slice hm
  obtain ⟨nm, hnm⟩ : ∃ nm, nm = m.length := ⟨_, rfl⟩
  have HNM0 : Hid (nm = m.length) := hnm
  rw [← hnm] at hm hcu1 ⊢
  have HM : Hid (HasSts w2 (.slice ou nm cu) m) := hm
  clear hb k1 hm hnm y0 y1 y2 y3 y4 y5 y6 y7 y8 y9 y10 y11 yf hly
  go_wp2_with fail
  go_at_call 17; refine (k2 _ hB).mono ?_; rintro e w3 ⟨rfl, hb⟩
  replace r0 := RowAt.below r0 hb
  replace hB := below2 hB hb
  replace HL : Hid (HasSts _ (.slice o n cp) l) := HL.out.keep hb
  replace HM : Hid (HasSts _ (.slice ou nm cu) m) := HM.out.keep hb
  clear hb k2
  by_cases hck : ck = 0
  · replace hn64 := hn64 hck
    replace HNO2 := HNO2 hck
    replace HNO := HNO hck
    replace HY1 := HY1 hck
    replace HT1 := HT1 hck
    replace HC1 := HC1 hck
    replace HLN := HLN hck
    subst hck
    clear H1
    obtain ⟨⟨y0, y1, y2, y3, y4, y5⟩, ⟨y6, y7, y8, y9, y10, y11⟩, yf, hly⟩ := cells12' r0
    go_wp2_with fail
    go_at_call 14; refine (k3 _ hB).mono ?_; rintro e w4 ⟨rfl, hb⟩
    replace r0 := RowAt.below r0 hb
    replace hB := below2 hB hb
    replace HL : Hid (HasSts _ (.slice o n cp) l) := HL.out.keep hb
    replace HM : Hid (HasSts _ (.slice ou nm cu) m) := HM.out.keep hb
    clear hb k3 y0 y1 y2 y3 y4 y5 y6 y7 y8 y9 y10 y11 yf hly
    go_upto_region 8 with fail
    obtain ⟨Y, hY⟩ : ∃ Y, Y = w4.alloc (.cells #[.int .i64 s0, .int .u64 s1, .int .i64 s2, .bool su] 48) := ⟨_, rfl⟩
    have hb : Below w4.heap.size w4 Y := by rw [hY]; exact below_new (Below.refl _ _) _
    have r1 : RowAt Y w4.heap.size [.int .i64 s0, .int .u64 s1, .int .i64 s2, .bool su] 48 := by rw [hY]; exact RowAt.new _ _ _
    rw [← hY]
    replace r0 := RowAt.below r0 hb
    replace hB := below2 hB hb
    replace HL : Hid (HasSts _ (.slice o n cp) l) := HL.out.keep hb
    replace HM : Hid (HasSts _ (.slice ou nm cu) m) := HM.out.keep hb
    clear hb hY
    obtain ⟨g1, hg1⟩ : ∃ g, g = w4.heap.size := ⟨_, rfl⟩
    rw [← hg1] at r1 ⊢
    clear hg1
    obtain ⟨x0, x1, x2, x3, xf⟩ := cells4 r1
    obtain ⟨⟨y0, y1, y2, y3, y4, y5⟩, ⟨y6, y7, y8, y9, y10, y11⟩, yf, hly⟩ := cells12' r0
    cases is
    · have ha := (H3 rfl).out
      subst ha
      replace HMAY := HMAY (.slice none 0 0)
      have HAL : Hid (HasSts Y (.slice none 0 0) []) := hasRow_nil Y 4
      clear H2 H3 x0 x1 x2 x3 xf r1
      go_wp2_with fail
      go_at_call 19; refine (HMAY.out _ HAL.out).mono ?_; rintro e w6 ⟨rfl, hb⟩
      replace r0 := RowAt.below r0 hb
      replace hB := below2 hB hb
      replace HL : Hid (HasSts _ (.slice o n cp) l) := HL.out.keep hb
      replace HM : Hid (HasSts _ (.slice ou nm cu) m) := HM.out.keep hb
      clear hb y0 y1 y2 y3 y4 y5 y6 y7 y8 y9 y10 y11 yf hly HAL HMAY
      by_cases hy : y = 0
      · have hno : no = 0 := HNO.out hy
        have HLEN := HLN.out hy
        have HTK := HT1.out hy
        have HCM := HC1.out hy
        subst hy hno
        clear HNO HNO2 HY1 HT1 HC1 HLN
        have hl0 : nm = n + 1 := by
          have h1 := HNM0.out
          simp only [List.length_nil] at HLEN
          omega
        have hq0 : ((nm : Int) == (n : Int) + 1) = true := by rw [hl0]; simp
        clear HLEN hl0
        go_wp2_with fail
        go_loopw [69] (fun i wr => ∃ k : Nat, k ≤ n ∧ i = .int .i64 k ∧ Below w.heap.size w wr ∧ Hid (RowAt wr g0 [.int .u8 c0, .int .i64 c1, .int .u64 c2, .int .i64 c3, .bool cs, .int .u64 c5, .int .u64 c6, .int .i64 c7, .int .u8 c8, .int .i64 c9, .int .i64 c10, .int .i64 c11] 39) ∧ Hid (HasSts wr (.slice o n cp) l) ∧ Hid (HasSts wr (.slice ou nm cu) m)) (fun i _ => n - (intOf i).toNat)
        case atStart => exact ⟨0, by omega, rfl, hB, r0, HL, HM⟩
        case round =>
          obtain ⟨k, hk, rfl, hBr, HR0, HLr, HMr⟩ := hrel
          have hh := HLr.out
          by_cases hlt : k < n
          · have hkz : k < l.length := by rw [← HN.out]; exact hlt
            obtain ⟨g1, i1, rfl, hg1, a0, a1, a2, a3⟩ := HasSts.cell hh k hkz
            have HT := HTK.out l[k] (List.getElem_mem hkz)
            have cf := fun (W : World) (hm : HasSts W (.slice ou nm cu) m) => find_any m (.slice ou nm cu) l[k].router W hm
            rw [HT.1] at cf
            obtain ⟨tt, htt⟩ : ∃ tt, tt = seatOf m l[k].router := ⟨_, rfl⟩
            have HTT : Hid (l[k].router ≠ c1 → tt = l[k]) := fun c => by rw [htt]; exact HT.2 c
            rw [← htt] at cf
            clear HT htt
            obtain ⟨sk, hsk⟩ : ∃ sk : St, sk = l[k] := ⟨_, rfl⟩
            rw [← hsk] at a0 a1 a2 a3 cf HTT
            have hki : (k : Int) < (n : Int) := by omega
            clear hsk hg1 hh
            have r0 := HR0.out
            clear HR0
            go_upto_region 18 with fail
            obtain ⟨X, hX⟩ : ∃ X, X = wr.alloc (.cells #[.int .i64 sk.router, .int .u64 (sk.seq : Int), .int .i64 sk.time, .bool sk.up] 48) := ⟨_, rfl⟩
            have hb : Below wr.heap.size wr X := by rw [hX]; exact below_new (Below.refl _ _) _
            have rs : RowAt X wr.heap.size [.int .i64 sk.router, .int .u64 (sk.seq : Int), .int .i64 sk.time, .bool sk.up] 48 := by rw [hX]; exact RowAt.new _ _ _
            rw [← hX]
            replace r0 := RowAt.below r0 hb
            have hB2 := below2 hBr hb
            have HL2 : Hid (HasSts X (.slice (some ⟨g1, i1, none⟩) n cp) l) := HLr.out.keep hb
            have HM2 : Hid (HasSts X (.slice ou nm cu) m) := HMr.out.keep hb
            clear hX hb a0 a1 a2 a3 HLr HMr hBr
            obtain ⟨gs, hgs⟩ : ∃ g, g = wr.heap.size := ⟨_, rfl⟩
            rw [← hgs] at rs ⊢
            clear hgs
            obtain ⟨x0, x1, x2, x3, xf⟩ := cells4 rs
            have cf2 : Calls Try.prog 14 #[.slice ou nm cu, .int .i64 sk.router] X fun e w' => e = .returned (.tuple #[.agg #[.int .i64 tt.router, .int .u64 (tt.seq : Int), .int .i64 tt.time, .bool tt.up], .bool true]) ∧ Below X.heap.size X w' := cf X HM2.out
            clear cf
            go_wp2_with fail
            go_at_call 14; refine cf2.mono ?_; rintro e w7 ⟨rfl, hb⟩
            replace r0 := RowAt.below r0 hb
            replace rs := RowAt.below rs hb
            replace hB2 := below2 hB2 hb
            replace HL2 : Hid (HasSts _ (.slice (some ⟨g1, i1, none⟩) n cp) l) := HL2.out.keep hb
            replace HM2 : Hid (HasSts _ (.slice ou nm cu) m) := HM2.out.keep hb
            clear hb x0 x1 x2 x3 xf cf2
            go_upto_region 19 with fail
            obtain ⟨Y, hY⟩ : ∃ Y, Y = w7.alloc (.cells #[.int .i64 tt.router, .int .u64 (tt.seq : Int), .int .i64 tt.time, .bool tt.up] 48) := ⟨_, rfl⟩
            have hb : Below w7.heap.size w7 Y := by rw [hY]; exact below_new (Below.refl _ _) _
            have rt : RowAt Y w7.heap.size [.int .i64 tt.router, .int .u64 (tt.seq : Int), .int .i64 tt.time, .bool tt.up] 48 := by rw [hY]; exact RowAt.new _ _ _
            rw [← hY]
            replace r0 := RowAt.below r0 hb
            replace rs := RowAt.below rs hb
            replace hB2 := below2 hB2 hb
            replace HL2 : Hid (HasSts _ (.slice (some ⟨g1, i1, none⟩) n cp) l) := HL2.out.keep hb
            replace HM2 : Hid (HasSts _ (.slice ou nm cu) m) := HM2.out.keep hb
            clear hb hY
            obtain ⟨gt, hgt⟩ : ∃ g, g = w7.heap.size := ⟨_, rfl⟩
            rw [← hgt] at rt ⊢
            clear hgt
            obtain ⟨x0, x1, x2, x3, xf⟩ := cells4 rs
            obtain ⟨z0, z1, z2, z3, zf⟩ := cells4 rt
            obtain ⟨⟨y0, y1, y2, y3, y4, y5⟩, ⟨y6, y7, y8, y9, y10, y11⟩, yf, hly⟩ := cells12' r0
            have HR0 : Hid (RowAt Y g0 [.int .u8 c0, .int .i64 c1, .int .u64 c2, .int .i64 c3, .bool cs, .int .u64 c5, .int .u64 c6, .int .i64 c7, .int .u8 c8, .int .i64 c9, .int .i64 c10, .int .i64 c11] 39) := r0
            clear r0 rs rt
            by_cases hne : sk.router = c1
            · have q1 : (sk.router == c1) = true := by rw [hne]; simp
              have q2 : (sk.router != c1) = false := by rw [hne]; simp
              clear HTT hne
              go_wp2_with fail
              go_roundw
              case rel => exact ⟨k + 1, by omega, by go_num, hB2, HR0, HL2, HM2⟩
              case measure => simp [intOf]; omega
            · have e1 := HTT.out hne
              have q1 : (sk.router == c1) = false := beq_eq_false_iff_ne.2 hne
              have q2 : (sk.router != c1) = true := bne_iff_ne.2 hne
              subst e1
              have hneq := st_neq tt.router (tt.seq : Int) tt.time tt.up
              have hgd := st_guard
              clear HTT hne
              go_wp2_with fail
              go_roundw
              case rel => exact ⟨k + 1, by omega, by go_num, hB2, HR0, HL2, HM2⟩
              case measure => simp [intOf]; omega
          · obtain rfl : k = n := by omega
            have cc := check_any m (.slice ou nm cu) wr HMr.out
            rw [HCM.out] at cc
            clear hh HR0 HLr HMr HTK
            go_wp2_with fail
            go_at_call 17; refine cc.mono ?_; rintro e w8 ⟨rfl, hb⟩
            replace hBr := below2 hBr hb
            go_wp2_with fail
            go_ret
            exact ⟨by first | rfl | simp, hBr⟩
      · have HYY := HY1.out hy
        have q1 : (y == 0) = false := beq_eq_false_iff_ne.2 hy
        have q2 : (y != 0) = true := bne_iff_ne.2 hy
        clear HT1 HC1 HLN HNO
        rcases HNO2.out with hno | hno
        · subst hno
          clear HNO2
          rcases HYY with h2 | h2 | h2
          · subst h2
            go_wp2_with fail
            go_ret
            exact ⟨rfl, hB⟩
          · subst h2
            go_wp2_with fail
            go_ret
            exact ⟨rfl, hB⟩
          · subst h2
            by_cases e2 : no = 2
            · subst e2
              go_wp2_with fail
              go_ret
              exact ⟨rfl, hB⟩
            by_cases e1 : no = 1
            · subst e1
              go_wp2_with fail
              go_ret
              exact ⟨rfl, hB⟩
            have n2 : (no == 2) = false := beq_eq_false_iff_ne.2 e2
            have n1 : (no == 1) = false := beq_eq_false_iff_ne.2 e1
            have cs := same_any m (.slice ou nm cu) (.slice o n cp) w6 HM.out HL.out
            clear e1 e2 hy
            go_wp2_with fail
            go_at_call 21; refine cs.mono ?_; rintro e w7 ⟨rfl, hb⟩
            replace hB := below2 hB hb
            go_wp2_with fail
            go_ret
            exact ⟨rfl, hB⟩
        · subst hno
          have n8 : ∀ x : Int, True := fun _ => trivial
          rcases HYY with h2 | h2 | h2
          · exact absurd h2 (by decide)
          · exact absurd h2 (by decide)
          · subst h2
            have cs := same_any m (.slice ou nm cu) (.slice o n cp) w6 HM.out HL.out
            by_cases e8 : no = 8
            · subst e8
              clear HNO2 hy q1 q2
              go_wp2_with fail
              go_at_call 21; refine cs.mono ?_; rintro e w7 ⟨rfl, hb⟩
              replace hB := below2 hB hb
              go_wp2_with fail
              go_ret
              exact ⟨rfl, hB⟩
            · have m1 : (no == 8) = false := beq_eq_false_iff_ne.2 e8
              have m2 : (no != 8) = true := bne_iff_ne.2 e8
              clear HNO2 hy q1 q2 e8
              go_wp2_with fail
              go_at_call 21; refine cs.mono ?_; rintro e w7 ⟨rfl, hb⟩
              replace hB := below2 hB hb
              go_wp2_with fail
              go_ret
              exact ⟨rfl, hB⟩
    · obtain ⟨s, ha, e0, e1, e2, e3⟩ := (H2 rfl).out
      subst ha e0 e1 e2 e3
      clear H2 H3
      obtain ⟨Z, hZ⟩ : ∃ Z, Z = Y.alloc (.cells #[.int .i64 s.router, .int .u64 (s.seq : Int), .int .i64 s.time, .bool s.up] 48) := ⟨_, rfl⟩
      have hb : Below Y.heap.size Y Z := by rw [hZ]; exact below_new (Below.refl _ _) _
      have hsrc : HasSts Z (.slice (some ⟨Y.heap.size, 0, none⟩) 1 1) [s] := by rw [hZ]; exact one_has Y s
      obtain ⟨v', w5, hrun, ho5, hg5⟩ := append_row info_seat Try.underlying44 rfl (by decide) (World.ownsRow_nil Z Z.heap.size 48 4) hsrc (one_seats [s]) (by simp) (by simp) (Nat.le_refl _)
      have hb5 : Below Z.heap.size Z w5 := (Below.refl _ Z).grown hg5 (Nat.le_refl _) (fun k e => by simp [Value.ownBlock] at e)
      have hbY5 := below2 hb hb5
      have HAL0 : HasSts w5 v' [s] := hasRow_own ho5
      obtain ⟨oa, ca, rfl, _, _⟩ := HasRow.slice HAL0
      have HAL : Hid (HasSts w5 (.slice oa [s].length ca) [s]) := HAL0
      replace HMAY := HMAY (.slice oa [s].length ca)
      rw [hZ] at hrun
      replace r0 := RowAt.below r0 hbY5
      replace hB := below2 hB hbY5
      replace HL : Hid (HasSts _ (.slice o n cp) l) := HL.out.keep hbY5
      replace HM : Hid (HasSts _ (.slice ou nm cu) m) := HM.out.keep hbY5
      clear hsrc ho5 hg5 hb5 hbY5 hb HAL0 y0 y1 y2 y3 y4 y5 y6 y7 y8 y9 y10 y11 yf hly
      obtain ⟨⟨y0, y1, y2, y3, y4, y5⟩, ⟨y6, y7, y8, y9, y10, y11⟩, yf, hly⟩ := cells12' r0
      go_wp2_with fail
      go_at_call 19; refine (HMAY.out _ HAL.out).mono ?_; rintro e w6 ⟨rfl, hb⟩
      replace r0 := RowAt.below r0 hb
      replace hB := below2 hB hb
      replace HL : Hid (HasSts _ (.slice o n cp) l) := HL.out.keep hb
      replace HM : Hid (HasSts _ (.slice ou nm cu) m) := HM.out.keep hb
      clear hb y0 y1 y2 y3 y4 y5 y6 y7 y8 y9 y10 y11 yf hly HAL HMAY
      by_cases hy : y = 0
      · have hno : no = 0 := HNO.out hy
        have HLEN := HLN.out hy
        have HTK := HT1.out hy
        have HCM := HC1.out hy
        subst hy hno
        clear HNO HNO2 HY1 HT1 HC1 HLN
        have hl0 : nm = n := by
          have h1 := HNM0.out
          simp only [List.length_cons, List.length_nil] at HLEN
          omega
        have hq0 : ((nm : Int) == (n : Int)) = true := by rw [hl0]; simp
        have hq1 : (nm == n) = true := by rw [hl0]; simp
        clear HLEN hl0
        go_wp2_with fail
        go_loopw [69] (fun i wr => ∃ k : Nat, k ≤ n ∧ i = .int .i64 k ∧ Below w.heap.size w wr ∧ Hid (RowAt wr g0 [.int .u8 c0, .int .i64 c1, .int .u64 c2, .int .i64 c3, .bool cs, .int .u64 c5, .int .u64 c6, .int .i64 c7, .int .u8 c8, .int .i64 c9, .int .i64 c10, .int .i64 c11] 39) ∧ Hid (HasSts wr (.slice o n cp) l) ∧ Hid (HasSts wr (.slice ou nm cu) m)) (fun i _ => n - (intOf i).toNat)
        case atStart => exact ⟨0, by omega, rfl, hB, r0, HL, HM⟩
        case round =>
          obtain ⟨k, hk, rfl, hBr, HR0, HLr, HMr⟩ := hrel
          have hh := HLr.out
          by_cases hlt : k < n
          · have hkz : k < l.length := by rw [← HN.out]; exact hlt
            obtain ⟨g1, i1, rfl, hg1, a0, a1, a2, a3⟩ := HasSts.cell hh k hkz
            have HT := HTK.out l[k] (List.getElem_mem hkz)
            have cf := fun (W : World) (hm : HasSts W (.slice ou nm cu) m) => find_any m (.slice ou nm cu) l[k].router W hm
            rw [HT.1] at cf
            obtain ⟨tt, htt⟩ : ∃ tt, tt = seatOf m l[k].router := ⟨_, rfl⟩
            have HTT : Hid (l[k].router ≠ c1 → tt = l[k]) := fun c => by rw [htt]; exact HT.2 c
            rw [← htt] at cf
            clear HT htt
            obtain ⟨sk, hsk⟩ : ∃ sk : St, sk = l[k] := ⟨_, rfl⟩
            rw [← hsk] at a0 a1 a2 a3 cf HTT
            have hki : (k : Int) < (n : Int) := by omega
            clear hsk hg1 hh
            have r0 := HR0.out
            clear HR0
            go_upto_region 18 with fail
            obtain ⟨X, hX⟩ : ∃ X, X = wr.alloc (.cells #[.int .i64 sk.router, .int .u64 (sk.seq : Int), .int .i64 sk.time, .bool sk.up] 48) := ⟨_, rfl⟩
            have hb : Below wr.heap.size wr X := by rw [hX]; exact below_new (Below.refl _ _) _
            have rs : RowAt X wr.heap.size [.int .i64 sk.router, .int .u64 (sk.seq : Int), .int .i64 sk.time, .bool sk.up] 48 := by rw [hX]; exact RowAt.new _ _ _
            rw [← hX]
            replace r0 := RowAt.below r0 hb
            have hB2 := below2 hBr hb
            have HL2 : Hid (HasSts X (.slice (some ⟨g1, i1, none⟩) n cp) l) := HLr.out.keep hb
            have HM2 : Hid (HasSts X (.slice ou nm cu) m) := HMr.out.keep hb
            clear hX hb a0 a1 a2 a3 HLr HMr hBr
            obtain ⟨gs, hgs⟩ : ∃ g, g = wr.heap.size := ⟨_, rfl⟩
            rw [← hgs] at rs ⊢
            clear hgs
            obtain ⟨x0, x1, x2, x3, xf⟩ := cells4 rs
            have cf2 : Calls Try.prog 14 #[.slice ou nm cu, .int .i64 sk.router] X fun e w' => e = .returned (.tuple #[.agg #[.int .i64 tt.router, .int .u64 (tt.seq : Int), .int .i64 tt.time, .bool tt.up], .bool true]) ∧ Below X.heap.size X w' := cf X HM2.out
            clear cf
            go_wp2_with fail
            go_at_call 14; refine cf2.mono ?_; rintro e w7 ⟨rfl, hb⟩
            replace r0 := RowAt.below r0 hb
            replace rs := RowAt.below rs hb
            replace hB2 := below2 hB2 hb
            replace HL2 : Hid (HasSts _ (.slice (some ⟨g1, i1, none⟩) n cp) l) := HL2.out.keep hb
            replace HM2 : Hid (HasSts _ (.slice ou nm cu) m) := HM2.out.keep hb
            clear hb x0 x1 x2 x3 xf cf2
            go_upto_region 19 with fail
            obtain ⟨Y, hY⟩ : ∃ Y, Y = w7.alloc (.cells #[.int .i64 tt.router, .int .u64 (tt.seq : Int), .int .i64 tt.time, .bool tt.up] 48) := ⟨_, rfl⟩
            have hb : Below w7.heap.size w7 Y := by rw [hY]; exact below_new (Below.refl _ _) _
            have rt : RowAt Y w7.heap.size [.int .i64 tt.router, .int .u64 (tt.seq : Int), .int .i64 tt.time, .bool tt.up] 48 := by rw [hY]; exact RowAt.new _ _ _
            rw [← hY]
            replace r0 := RowAt.below r0 hb
            replace rs := RowAt.below rs hb
            replace hB2 := below2 hB2 hb
            replace HL2 : Hid (HasSts _ (.slice (some ⟨g1, i1, none⟩) n cp) l) := HL2.out.keep hb
            replace HM2 : Hid (HasSts _ (.slice ou nm cu) m) := HM2.out.keep hb
            clear hb hY
            obtain ⟨gt, hgt⟩ : ∃ g, g = w7.heap.size := ⟨_, rfl⟩
            rw [← hgt] at rt ⊢
            clear hgt
            obtain ⟨x0, x1, x2, x3, xf⟩ := cells4 rs
            obtain ⟨z0, z1, z2, z3, zf⟩ := cells4 rt
            obtain ⟨⟨y0, y1, y2, y3, y4, y5⟩, ⟨y6, y7, y8, y9, y10, y11⟩, yf, hly⟩ := cells12' r0
            have HR0 : Hid (RowAt Y g0 [.int .u8 c0, .int .i64 c1, .int .u64 c2, .int .i64 c3, .bool cs, .int .u64 c5, .int .u64 c6, .int .i64 c7, .int .u8 c8, .int .i64 c9, .int .i64 c10, .int .i64 c11] 39) := r0
            clear r0 rs rt
            by_cases hne : sk.router = c1
            · have q1 : (sk.router == c1) = true := by rw [hne]; simp
              have q2 : (sk.router != c1) = false := by rw [hne]; simp
              clear HTT hne
              go_wp2_with fail
              go_roundw
              case rel => exact ⟨k + 1, by omega, by go_num, hB2, HR0, HL2, HM2⟩
              case measure => simp [intOf]; omega
            · have e1 := HTT.out hne
              have q1 : (sk.router == c1) = false := beq_eq_false_iff_ne.2 hne
              have q2 : (sk.router != c1) = true := bne_iff_ne.2 hne
              subst e1
              have hneq := st_neq tt.router (tt.seq : Int) tt.time tt.up
              have hgd := st_guard
              clear HTT hne
              go_wp2_with fail
              go_roundw
              case rel => exact ⟨k + 1, by omega, by go_num, hB2, HR0, HL2, HM2⟩
              case measure => simp [intOf]; omega
          · obtain rfl : k = n := by omega
            have cc := check_any m (.slice ou nm cu) wr HMr.out
            rw [HCM.out] at cc
            clear hh HR0 HLr HMr HTK
            go_wp2_with fail
            go_at_call 17; refine cc.mono ?_; rintro e w8 ⟨rfl, hb⟩
            replace hBr := below2 hBr hb
            go_wp2_with fail
            go_ret
            exact ⟨by first | rfl | simp, hBr⟩
      · have HYY := HY1.out hy
        have q1 : (y == 0) = false := beq_eq_false_iff_ne.2 hy
        have q2 : (y != 0) = true := bne_iff_ne.2 hy
        clear HT1 HC1 HLN HNO
        rcases HNO2.out with hno | hno
        · subst hno
          clear HNO2
          rcases HYY with h2 | h2 | h2
          · subst h2
            go_wp2_with fail
            go_ret
            exact ⟨rfl, hB⟩
          · subst h2
            go_wp2_with fail
            go_ret
            exact ⟨rfl, hB⟩
          · subst h2
            by_cases e2 : no = 2
            · subst e2
              go_wp2_with fail
              go_ret
              exact ⟨rfl, hB⟩
            by_cases e1 : no = 1
            · subst e1
              go_wp2_with fail
              go_ret
              exact ⟨rfl, hB⟩
            have n2 : (no == 2) = false := beq_eq_false_iff_ne.2 e2
            have n1 : (no == 1) = false := beq_eq_false_iff_ne.2 e1
            have cs := same_any m (.slice ou nm cu) (.slice o n cp) w6 HM.out HL.out
            clear e1 e2 hy
            go_wp2_with fail
            go_at_call 21; refine cs.mono ?_; rintro e w7 ⟨rfl, hb⟩
            replace hB := below2 hB hb
            go_wp2_with fail
            go_ret
            exact ⟨rfl, hB⟩
        · subst hno
          have n8 : ∀ x : Int, True := fun _ => trivial
          rcases HYY with h2 | h2 | h2
          · exact absurd h2 (by decide)
          · exact absurd h2 (by decide)
          · subst h2
            have cs := same_any m (.slice ou nm cu) (.slice o n cp) w6 HM.out HL.out
            by_cases e8 : no = 8
            · subst e8
              clear HNO2 hy q1 q2
              go_wp2_with fail
              go_at_call 21; refine cs.mono ?_; rintro e w7 ⟨rfl, hb⟩
              replace hB := below2 hB hb
              go_wp2_with fail
              go_ret
              exact ⟨rfl, hB⟩
            · have m1 : (no == 8) = false := beq_eq_false_iff_ne.2 e8
              have m2 : (no != 8) = true := bne_iff_ne.2 e8
              clear HNO2 hy q1 q2 e8
              go_wp2_with fail
              go_at_call 21; refine cs.mono ?_; rintro e w7 ⟨rfl, hb⟩
              replace hB := below2 hB hb
              go_wp2_with fail
              go_ret
              exact ⟨rfl, hB⟩
  · have HV := H1 hck
    have q1 : (ck == 0) = false := beq_eq_false_iff_ne.2 hck
    have q2 : (ck != 0) = true := bne_iff_ne.2 hck
    have hy := HV.out
    subst hy
    clear HNO2 HNO HY1 HT1 HC1 HLN H1 H2 H3 hck HMAY k3
    go_wp2_with fail
    go_ret
    exact ⟨rfl, hB⟩
theorem ok_of {l : List St} (h : checkL l = 0) : okL l = true := by
  unfold checkL at h
  cases hk : okL l with
  | true => rfl
  | false => rw [hk] at h; exact absurd h (by decide)
theorem walk (v : Value) (l : List St) (e : Ev) (h : Int) (w : World) (b0 : HasSts w v l) (f0 : ∀ s ∈ l, FitS s) (b1 : FitE e) (b2 : -9223372036854775808 ≤ h ∧ h ≤ 9223372036854775807) :
    Calls Try.prog 5 #[v, evV e, .int .i64 h] w fun e w' => e = .returned (.bool true) ∧ Below w.heap.size w w' := by
  obtain ⟨o, cp, rfl, h1, h2⟩ := HasRow.slice b0
  refine walks o l.length cp l _ _ _ _ _ _ _ _ _ _ _ _ h w (checkL l) (nextL l e h).2 (mayL (aloneL l e.router) e h) (nextL l e h).1 (seatOf l e.router).router ((seatOf l e.router).seq : Int) (seatOf l e.router).time (seatOf l e.router).up (isIn l e.router) (aloneL l e.router) b0 (rfl : l.length = l.length) ⟨h1, h2⟩ (fun W hb => next_any l _ e h W (b0.keep hb) b1) (fun W hb => check_any l _ W (b0.keep hb)) (fun W hb => find_any l _ e.router W (b0.keep hb)) (fun v W hv => may_any _ v e h W hv b1) ?_ ?_ ?_ ?_ ?_ ?_ ?_ ?_ ?_ ?_
  · intro hc
    refine (next_wrong ?_ : _ = _)
    cases hk : okL l with
    | false => rfl
    | true => exfalso; apply hc; unfold checkL; rw [hk]; rfl
  · intro hc
    have := ((okL_iff l).1 (ok_of hc)).1
    omega
  · intro hi
    unfold isIn at hi
    cases hf : findL l e.router with
    | none => rw [hf] at hi; cases hi
    | some s =>
      show ∃ s : St, _
      refine ⟨s, ?_, ?_, ?_, ?_, ?_⟩
      · unfold aloneL; rw [hf]
      all_goals (unfold seatOf; rw [hf]; rfl)
  · intro hi
    unfold isIn at hi
    show _ = _
    unfold aloneL
    cases hf : findL l e.router with
    | none => rfl
    | some s => rw [hf] at hi; cases hi
  · intro hc
    show _ ∨ _
    rw [next_may]
    exact alone_may (ok_of hc) e h
  · intro hc hy
    rw [next_may] at hy
    rcases alone_may (ok_of hc) e h with ha | ha
    · rw [ha, hy]
    · rw [ha] at hy; exact absurd hy (by decide)
  · intro hc hy
    exact next_keeps (ok_of hc) hy
  · intro hc hy
    exact (taken hy).2.2
  · intro hc hy
    show _ = _
    unfold checkL
    rw [(taken hy).1]
    rfl
  · intro hc hy
    exact (taken hy).2.1

set_option maxRecDepth 100000 in
theorem lifted (os : Os) (started : os.Started) (H : Type) (enc : TypeId × Value → H) :
    ReturnsInHanded {} Try.checked os 5 .any (Rows.orderOwnSpec.pre6 enc Try.prog Try.f5 Rows.orderOwnRow.domain false) (Rows.orderOwnSpec.post enc Try.prog Try.f5 false true false false) := by
  refine returnsInHanded_of_change_sized (C := Try.checked) own started (by kernel_rfl) Try.func5
    (ChangeSpec.witness6 (enc := enc) (C := Try.checked) false ⟨#[], #[.slice none 0 0, .agg #[.int .u8 0, .int .i64 0, .int .u64 0, .int .i64 0, .bool false, .int .u64 0, .int .u64 0, .int .i64 0, .int .u8 0, .int .i64 0, .int .i64 0, .int .i64 0], .int .i64 0], []⟩ 8 (by kernel_rfl) (by kernel_rfl) (by kernel_rfl) (by kernel_rfl)) ?_
  intro W base args ds gs before hval0 hW _ hsz0 _
  have hsz : (DataW.weightsEach Try.prog (Try.f5.params.toList ++ Rows.orderOwnSpec.plain.varTypes Try.prog) (ds ++ gs)).all (· ≤ reachBytes) = true := hsz0
  clear hsz0
  have hval : ∀ (j : Nat) t v, Try.f5.params[j]? = some t → args[j]? = some v → Value.okWide Try.prog W .any base t v := hval0
  have hW' := hW
  obtain ⟨p, q, hA0, hV, rfl, hfz, hnd⟩ := hW
  have hA : DataW.TrodAll enc Try.prog W 0 (fun _ => true) true Try.f5.params.toList args.toList ds p := hA0
  rw [Try.params5] at hA hval hsz
  obtain ⟨v0, vs0, d0, ds0, p0, q0, hargs, rfl, rfl, h0, r0⟩ := trodAll_cons hA
  obtain ⟨v1, vs1, d1, ds1, p1, q1, rfl, rfl, rfl, h1, r1⟩ := trodAll_cons r0
  obtain ⟨v2, vs2, d2, ds2, p2, q2, rfl, rfl, rfl, h2, r2⟩ := trodAll_cons r1
  obtain ⟨rfl, rfl, rfl⟩ := trodAll_nil r2
  obtain rfl : args = #[v0, v1, v2] := by cases args; simp_all
  obtain ⟨rfl, rfl⟩ := trodVars_none hV
  obtain ⟨a0, len0, cap0, rfl⟩ := okWide_slice Try.underlying44 (hval 0 44 v0 rfl rfl)
  have k0 := h0
  have lt0 : ∀ x ∈ p0, x.block < W.heap.size := by obtain ⟨m, hm⟩ := k0; exact DataW.trod_lt m _ _ _ hm
  obtain ⟨fuel0, hf0⟩ := h0
  obtain ⟨z0, b0, f0⟩ := Ord.open_seats hf0
  have k1 := h1
  have lt1 : ∀ x ∈ p1, x.block < W.heap.size := by obtain ⟨m, hm⟩ := k1; exact DataW.trod_lt m _ _ _ hm
  obtain ⟨n1, rfl, b1⟩ := Msg.open_event (hval 1 39 v1 rfl rfl) h1
  obtain ⟨a2, rfl, rfl, rfl, w2⟩ := open_int Try.underlying2 (hval 2 2 v2 rfl rfl) h2
  have b2 : -9223372036854775808 ≤ a2 ∧ a2 ≤ 9223372036854775807 := by simpa [Lit.wf, IntKind.min, IntKind.max, IntKind.signed, IntKind.bits] using w2
  clear hA0 hval0
  refine (walk (.slice a0 len0 cap0) z0 n1 a2 W b0 f0 b1 b2).mono fun e W' ⟨he, bel⟩ => ?_
  subst he
  exact ⟨_, rfl, _, _, _, [], _, [], hW', trodAll_mk1 (shut_bool Try.underlying4 _), (trodAll_cons_mk (Below.trod laidOut (by kernel_rfl) (of_decide_eq_true (by kernel_rfl)) k0 bel lt0) (trodAll_cons_mk (Below.trod laidOut (by kernel_rfl) (of_decide_eq_true (by kernel_rfl)) k1 bel lt1) (trodAll_cons_mk (shut_int Try.underlying2 w2) trodAll_mk0))), rfl, bel.frame _, fun h => by cases h⟩

theorem over : Rows.orderOwnRow.holds Try.pinned (OpenSpec.ofChange Rows.orderOwnSpec) :=
  OpenClaim.holds_of_wide 5 Try.f5 rfl rfl rfl rfl rfl rfl rfl ⟨rfl, rfl, rfl, rfl, rfl⟩ rfl rfl rfl rfl rfl (by kernel_rfl) Try.func5 (by kernel_rfl)
    (of_decide_eq_true (by kernel_rfl)) (by unfold Func.isWrapper; first | (rw [if_pos (by decide +kernel)]; kernel_rfl) | (rw [if_neg (by decide +kernel)]; exact ⟨rfl, rfl⟩))
    (fun os started H enc _ => lifted os started H enc)
end orderOwn
theorem oown_holds : Rows.OrderOwnSaid := orderOwn.over
#print axioms oown_holds
end Go.Proofs.Ytckaajadajjijab
