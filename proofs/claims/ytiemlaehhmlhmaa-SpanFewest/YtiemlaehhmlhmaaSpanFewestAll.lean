/- For every kind of addresses and any row of spans: spoorlaw10.SpanFewest returns true, and changes nothing that was there. No condition. -/
import Derived.Test.YtiemlaehhmlhmaaRows
import Derived.Test.YtiemlaehhmlhmaaSpFewZ
import Derived.Test.YtiemlaehhmlhmaaSpSame
import Derived.Test.YtiemlaehhmlhmaaSpTop2
import Derived.Test.YtiemlaehhmlhmaaAddrHalves
import Derived.Test.YtiemlaehhmlhmaaSpLives
import Derived.Test.YtiemlaehhmlhmaaSpOpen
import Derived.BigQuiet
import Derived.Deep.RegionHeld3
import Derived.Deep.DeepCutAuto
import Derived.ProofKit
import Derived.OpenShut
import Derived.ShutString
import Derived.SizedLaws
set_option linter.unusedVariables false
namespace Go.Proofs.Ytiemlaehhmlhmaa
namespace spanFewest
open Go.ChangeShapes Go.WideShapes Go.ChangeAt Go.RowKit
open Go.ChangeMaps (open_string shut_string)
open Go.Proofs.Ytiemlaehhmlhmaa.Sp
open Go.Proofs.Ytiemlaehhmlhmaa.Lk (HasRow)
open Go.Proofs.Ytiemlaehhmlhmaa.Addr (Bl bl_ne wp_region_bl bl_call Pf pfV okP lastN lastE last_any cmp_any covers_any coversB cmpN rightB hiN loN adV RowAt below2 below_drew below_new bset RowAt.lt RowAt.cell RowAt.frozen RowAt.below RowAt.drew RowAt.new RowAt.alloc cells2 cells4)
attribute [-go_sem] Builtin.append_
theorem own : ownKnob Try.prog.godebug = none := by kernel_rfl
theorem laidOut : laidOutB Try.prog = true := by kernel_rfl
theorem calls_of (p : Pf) (h : okP p = true) (h1 : 0 ≤ p.len) (h2 : p.len ≤ 128) (h3 : p.n < 2 ^ 128) (W : World) : Calls Try.prog 13 #[pfV p] W fun e w' => e = .returned (.tuple #[spV (spP p), .int .i64 0]) ∧ Below W.heap.size W w' := by
  have := of_any p W ⟨by omega, by omega⟩ h3
  rw [if_pos h, h] at this
  exact this
theorem calls_last (p : Pf) (h : okP p = true) (h1 : 0 ≤ p.len) (h2 : p.len ≤ 128) (h3 : p.n < 2 ^ 128) (W : World) : Calls Try.prog 30 #[pfV p] W fun e w' => e = .returned (.tuple #[adV (lastN p), .int .i64 0]) ∧ Below W.heap.size W w' := by
  have := last_any p W ⟨by omega, by omega⟩ h3
  unfold lastE at this
  rw [if_pos h] at this
  exact this
set_option maxHeartbeats 16000000 in
set_option maxRecDepth 20000 in
theorem walk (six : Bool) (v : Value) (l : List Sp) (w : World) (b1 : HasSps w v l) (f1 : ∀ s ∈ l, FitS s) :
    Calls Try.prog 8 #[.bool six, v] w fun e w' => e = .returned (.bool true) ∧ Below w.heap.size w w' := by
  have c0 := fun (W : World) => lives_any W
  have cp := fun (W : World) (h : HasSps W v l) => prefixes_any six l v W h f1
  have hfp := few_pref six l
  obtain ⟨o1, c1, rfl, hc1, _⟩ := HasRow.slice b1
  have hB : Below w.heap.size w w := Below.refl _ _
  generalize prefE six l = E at cp hfp
  obtain ⟨n, hn⟩ : ∃ n, n = l.length := ⟨_, rfl⟩
  have HN : Hid (n = l.length) := hn
  rw [← hn] at b1 cp hc1 ⊢
  have h10 : (E = ([], 11) ∧ 10 < l.length) → (10 : Int) < (n : Int) := fun h => by have := h.2; omega
  clear hn f1
  go_enter Try.func8, Try.ntmps8
  go_wp2_with fail
  go_at_call 10; refine (c0 _).mono ?_; rintro e w1 ⟨rfl, hb⟩
  replace hB := below2 hB hb
  replace b1 := b1.keep hb
  clear hb c0
  go_wp2_with fail
  go_at_call 26; refine (cp _ b1).mono ?_; rintro e w3 ⟨u1, rfl, hO1⟩
  replace hB := below2 hB hO1.bl
  replace b1 := b1.keep hO1.bl
  clear cp
  rcases hfp with rfl | ⟨rfl, hl10⟩ | ⟨P, rfl, hfw, hrow, hlP⟩
  · clear hO1 h10 b1
    simp only
    go_wp2_with fail
    go_ret
    exact ⟨rfl, hB⟩
  · replace h10 : (10 : Int) < (n : Int) := by have := HN.out; omega
    have h10b : decide ((10 : Int) < (n : Int)) = true := decide_eq_true h10
    clear hO1 b1 hl10
    simp only
    go_wp2_with fail
    go_ret
    exact ⟨rfl, hB⟩
  · clear h10
    simp only at hO1 ⊢
    obtain ⟨o2, c2, rfl⟩ := hO1.slice
    have hP0 := hO1.has
    clear hO1
    obtain ⟨q, hq⟩ : ∃ q, q = P.length := ⟨_, rfl⟩
    have HQ : Hid (q = P.length) := hq
    rw [← hq] at hP0 hlP ⊢
    have hqi : (q : Int) ≤ 4096 := by omega
    clear hq
    by_cases hbig : 1000 < q
    · have hbf : decide ((1000 : Int) < (q : Int)) = true := decide_eq_true (by omega)
      clear hP0 hfw hrow b1
      go_wp2_with fail
      go_ret
      exact ⟨rfl, hB⟩
    · have hbf : decide ((1000 : Int) < (q : Int)) = false := decide_eq_false (by omega)
      have HFW : Hid (FewP six l P) := hfw
      have HROW : Hid (Row six l) := hrow
      have HR : Hid (∀ wr, Below w3.heap.size w3 wr → HasPfs wr (.slice o2 q c2) P) := fun wr hq => hP0.keep hq
      have HSL : Hid (∀ wr, Below w3.heap.size w3 wr → HasSps wr (.slice o1 n c1) l) := fun wr hq => b1.keep hq
      have hqs : (q : Int) ≤ 1000 := by omega
      have H0 : Hid (Own1 w3 w3 34 (.slice none 0 0) ((P.take 0).map spP)) := ⟨World.ownsRow_nil _ _ _ _, Below.refl _ _⟩
      clear hP0 hfw hrow b1
      go_wp2_with fail
      go_loopw [7, 49] (fun u i wr => ∃ k : Nat, k ≤ q ∧ i = .int .i64 k ∧ Hid (Own1 w3 wr 34 u ((P.take k).map spP))) (fun _ i _ => q - (Go.RowKit.intOf i).toNat)
      case atStart => exact ⟨0, by omega, rfl, H0⟩
      case round =>
        clear H0
        obtain ⟨k, hk, rfl, HI⟩ := hrel
        have hI := HI.out
        by_cases hlt : k < q
        · have hkz : k < P.length := by rw [← HQ.out]; exact hlt
          obtain ⟨g1, i1, rfl, hg1, a0, a1, a2, a3⟩ := HasPfs.cell (HR.out _ hI.bl) k hkz
          obtain ⟨ok1, ok2, ok3, ok4, ok5, ok6⟩ := HFW.out.ok k hkz
          have HA : Hid ((P.take (k + 1)).map spP = (P.take k).map spP ++ [spP P[k]]) := take_map_succ hkz
          have hki : (k : Int) < (q : Int) := by omega
          have htk : ((P.take k).map spP).length ≤ 1000000 := by rw [List.length_map, List.length_take]; omega
          have cO := fun (W : World) => calls_of P[k] ok1 ok3 ok4 ok5 W
          have HLO : Hid (∀ j (h : j + 1 = k) (hj : j < P.length), P[j].six = six ∧ 0 ≤ P[j].len ∧ P[j].len ≤ 128 ∧ (∀ W, Calls Try.prog 30 #[pfV P[j]] W fun e w' => e = .returned (.tuple #[adV (lastN P[j]), .int .i64 0]) ∧ Below W.heap.size W w') ∧ (∀ W, Calls Try.prog 31 #[adV (lastN P[j]), adV P[k].n] W fun e w' => e = .returned (.int .i64 (-1)) ∧ Below W.heap.size W w') ∧ (P[k].len = P[j].len → ∀ W, Calls Try.prog 32 #[pfV ⟨six, P[j].n, P[j].len - 1⟩, pfV P[k]] W fun e w' => e = .returned (.bool false) ∧ Below W.heap.size W w')) := fun j hjk hj => by
            subst hjk
            obtain ⟨j1, j2, j3, j4, j5, j6⟩ := HFW.out.ok j hj
            have hup := HFW.out.up j hkz
            refine ⟨j2, j3, j4, fun W => calls_last P[j] j1 j3 j4 j5 W, fun W => ?_, fun he W => ?_⟩
            · have h := cmp_any (lastN P[j]) P[j + 1].n W j6 ok5
              have e : cmpN (lastN P[j]) P[j + 1].n = -1 := by unfold cmpN; rw [if_pos hup]
              rw [e] at h
              exact h
            · have h := covers_any ⟨six, P[j].n, P[j].len - 1⟩ P[j + 1] W ⟨by simp only; omega, by simp only; omega⟩ j5 ⟨by omega, by omega⟩ ok5
              rw [HFW.out.no j hkz he] at h
              exact h
          unfold pfV adV at HLO
          unfold pfV spV spP at cO
          simp only at cO HLO
          rw [ok2] at cO HLO a0
          have HAP : Hid (∀ W, Below wr.heap.size wr W → ∃ v' w9, (∀ ty, (Builtin.append_ #[22, 22] ty #[u7, .slice (some ⟨W.heap.size, 0, none⟩) 1 1]).run Try.prog (W.alloc (.cells #[.int .u64 (hiN P[k].n : Int), .int .u64 (loN P[k].n : Int), .int .u64 (hiN (lastN P[k]) : Int), .int .u64 (loN (lastN P[k]) : Int)] 34)) = .ok v' w9) ∧ Own1 w3 w9 34 v' ((P.take k).map spP ++ [spP P[k]])) := fun W hq => by
            obtain ⟨g, cap, w9, hrun, hO, _⟩ := app_S (hI.below hq) (spP P[k]) htk
            exact ⟨_, w9, hrun, hO⟩
          clear ok1 ok2 ok3 ok4 ok5 ok6 htk hg1
          generalize P[k].len = ln at a3 cO HLO
          generalize hiN P[k].n = xh at a1 cO HLO HAP
          generalize loN P[k].n = xl at a2 cO HLO HAP
          generalize hiN (lastN P[k]) = th at cO HAP
          generalize loN (lastN P[k]) = tl at cO HAP
          have hBW : Below wr.heap.size wr wr := Below.refl _ _
          have HBL : Hid (∀ W, Below wr.heap.size wr W → Below w3.heap.size w3 W) := fun W hq => below2 hI.bl hq
          clear HI hI
          go_upto_region 10 with fail
          obtain ⟨X, hX⟩ : ∃ X, X = wr.alloc (.cells #[.bool six, .int .u64 (xh : Int), .int .u64 (xl : Int), .int .i64 ln] 27) := ⟨_, rfl⟩
          have hbX : Below wr.heap.size wr X := by rw [hX]; exact below_new (Below.refl _ _) _
          have rx : RowAt X wr.heap.size [.bool six, .int .u64 (xh : Int), .int .u64 (xl : Int), .int .i64 ln] 27 := by rw [hX]; exact RowAt.new _ _ _
          rw [← hX]
          clear hX
          obtain ⟨gx, hgx⟩ : ∃ g, g = wr.heap.size := ⟨_, rfl⟩
          rw [← hgx] at rx ⊢
          clear hgx
          replace hBW := below2 hBW hbX
          clear hbX a0 a1 a2 a3
          obtain ⟨x0, x1, x2, x3, xf⟩ := cells4 rx
          go_wp2_with fail
          go_at_call 13; refine (cO _).mono ?_; rintro e w4 ⟨rfl, hb⟩
          replace rx := rx.below hb
          replace hBW := below2 hBW hb
          clear x0 x1 x2 x3 xf hb cO
          go_upto_region 11 with fail
          obtain ⟨Y, hY⟩ : ∃ X, X = w4.alloc (.cells #[.int .u64 (xh : Int), .int .u64 (xl : Int), .int .u64 (th : Int), .int .u64 (tl : Int)] 34) := ⟨_, rfl⟩
          have hbY : Below w4.heap.size w4 Y := by rw [hY]; exact below_new (Below.refl _ _) _
          have rs : RowAt Y w4.heap.size [.int .u64 (xh : Int), .int .u64 (xl : Int), .int .u64 (th : Int), .int .u64 (tl : Int)] 34 := by rw [hY]; exact RowAt.new _ _ _
          rw [← hY]
          clear hY
          obtain ⟨gs, hgs⟩ : ∃ g, g = w4.heap.size := ⟨_, rfl⟩
          rw [← hgs] at rs ⊢
          clear hgs
          replace hBW := below2 hBW hbY
          replace rx := rx.below hbY
          clear hbY
          obtain ⟨x0, x1, x2, x3, xf⟩ := cells4 rx
          have hsix : (six != six) = false := by simp
          by_cases hk0 : k = 0
          · have hz1 : decide ((0 : Int) < (k : Int)) = false := decide_eq_false (by omega)
            have hz2 : decide (0 < k) = false := decide_eq_false (by omega)
            clear HLO HBL hk0 rx
            obtain ⟨z0, z1, z2, z3, zf⟩ := cells4 rs
            obtain ⟨v', w9, hrun, hO9⟩ := HAP.out _ hBW
            have HI2 : Hid (Own1 w3 w9 34 v' ((P.take (k + 1)).map spP)) := by have e9 := HA.out; show Own1 _ _ _ _ _; rw [e9]; exact hO9
            clear HAP HA hO9 hBW rs
            go_wp2_with fail
            go_roundw
            all_goals first | (exact ⟨k + 1, by omega, by go_num, HI2⟩) | ((repeat apply Exists.intro); exact ⟨⟨k + 1, by omega, by go_num, HI2⟩, rfl⟩) | (simp [Go.RowKit.intOf]; omega)
          · obtain ⟨j, hj⟩ : ∃ j, k = j + 1 := ⟨k - 1, by omega⟩
            have hj2 : j < P.length := by omega
            obtain ⟨g2, i2, e12, hg2, d0, d1, d2, d3⟩ := HasPfs.cell (HR.out _ (HBL.out _ hBW)) j hj2
            injection e12 with e12
            injection e12 with e1 e2
            subst e1 e2
            obtain ⟨k2, k3, k4, cL, cC, cV⟩ := HLO.out j hj.symm hj2
            have HCV : Hid (ln = P[j].len → ∀ W, Calls Try.prog 32 #[.agg #[.bool six, .int .u64 (hiN P[j].n : Int), .int .u64 (loN P[j].n : Int), .int .i64 (P[j].len - 1)], .agg #[.bool six, .int .u64 (xh : Int), .int .u64 (xl : Int), .int .i64 ln]] W fun e w' => e = .returned (.bool false) ∧ Below W.heap.size W w') := cV
            clear cV HLO
            have HCJ : Hid (∀ W, Below wr.heap.size wr W → g1 < W.heap.size ∧ W.cell? ⟨g1, i1 + j * 4, none⟩ = some (.bool six) ∧ W.cell? ⟨g1, i1 + j * 4 + 1, none⟩ = some (.int .u64 (hiN P[j].n : Int)) ∧ W.cell? ⟨g1, i1 + j * 4 + 2, none⟩ = some (.int .u64 (loN P[j].n : Int)) ∧ W.cell? ⟨g1, i1 + j * 4 + 3, none⟩ = some (.int .i64 P[j].len)) := fun W hq => by
              obtain ⟨g3, i3, e13, fb, f0, f1, f2, f3⟩ := HasPfs.cell (HR.out _ (HBL.out _ hq)) j hj2
              injection e13 with e13
              injection e13 with e3 e4
              subst e3 e4
              rw [k2] at f0
              exact ⟨fb, f0, f1, f2, f3⟩
            rw [k2] at d0 cL
            obtain ⟨pq, hpq⟩ : ∃ z, z = P[j].len - 1 := ⟨_, rfl⟩
            have hpq2 : IntKind.i64.wrap pq = pq := by rw [IntKind.wrap_i64]; omega
            generalize P[j].len = pln at *
            generalize hiN P[j].n = ph at *
            generalize loN P[j].n = pl at *
            generalize hiN (lastN P[j]) = lh at *
            generalize loN (lastN P[j]) = ll at *
            have e1 : (k : Int) - 1 = (j : Int) := by omega
            have e2 : IntKind.i64.wrap (j : Int) = (j : Int) := by rw [IntKind.wrap_i64]; omega
            have hkp : decide ((0 : Int) < (k : Int)) = true := decide_eq_true (by omega)
            have hkp2 : decide (0 < k) = true := decide_eq_true (by omega)
            have hjn : (j : Int) < (q : Int) := by omega
            rw [← hpq] at HCV
            replace hpq := hpq.symm
            clear hk0 hj k2 k3 k4 HBL
            go_wp2_with fail
            go_at_call 30; refine (cL _).mono ?_; rintro e w5 ⟨rfl, hb⟩
            replace rx := rx.below hb
            replace rs := rs.below hb
            replace hBW := below2 hBW hb
            clear x0 x1 x2 x3 xf hb cL d0 d1 d2 d3 hg2
            go_upto_region 15 with fail
            obtain ⟨Z, hZ⟩ : ∃ X, X = w5.alloc (.cells #[.int .u64 (lh : Int), .int .u64 (ll : Int)] 25) := ⟨_, rfl⟩
            have hbZ : Below w5.heap.size w5 Z := by rw [hZ]; exact below_new (Below.refl _ _) _
            have rl : RowAt Z w5.heap.size [.int .u64 (lh : Int), .int .u64 (ll : Int)] 25 := by rw [hZ]; exact RowAt.new _ _ _
            rw [← hZ]
            clear hZ
            obtain ⟨gl, hgl⟩ : ∃ g, g = w5.heap.size := ⟨_, rfl⟩
            rw [← hgl] at rl ⊢
            clear hgl
            replace hBW := below2 hBW hbZ
            replace rx := rx.below hbZ
            replace rs := rs.below hbZ
            clear hbZ
            obtain ⟨hg3, d0, d1, d2, d3⟩ := HCJ.out _ hBW
            go_cut [14] (fun t wc => ∃ gu, t = .pointer (some ⟨gu, 0, none⟩) ∧ Hid (RowAt wc gu [.bool six, .int .u64 (ph : Int), .int .u64 (pl : Int), .int .i64 pq] 27 ∧ Below Z.heap.size Z wc))
            case first =>
              have hbA : Below Z.heap.size Z Z := Below.refl _ _
              have hgz : g1 < Z.heap.size := hg3
              have HSK : Hid (∀ W, Below Z.heap.size Z W → W.cell? ⟨g1, i1 + j * 4 + 1, none⟩ = some (.int .u64 (ph : Int)) ∧ W.cell? ⟨g1, i1 + j * 4 + 2, none⟩ = some (.int .u64 (pl : Int)) ∧ W.cell? ⟨g1, i1 + j * 4 + 3, none⟩ = some (.int .i64 pln)) := fun W hq =>
                ⟨(hq.cell (p := ⟨g1, i1 + j * 4 + 1, none⟩) hgz).trans d1, (hq.cell (p := ⟨g1, i1 + j * 4 + 2, none⟩) hgz).trans d2, (hq.cell (p := ⟨g1, i1 + j * 4 + 3, none⟩) hgz).trans d3⟩
              clear HAP HA cC HCJ hBW rx rs rl HCV d0 d1 d2 d3
              go_region_held3 (fun w' => w'.cell? ⟨g1, i1 + j * 4 + 1, none⟩ = some (.int .u64 (ph : Int)) ∧ w'.cell? ⟨g1, i1 + j * 4 + 2, none⟩ = some (.int .u64 (pl : Int)) ∧ w'.cell? ⟨g1, i1 + j * 4 + 3, none⟩ = some (.int .i64 pln))
                ((refine HSK.out _ ?_
                  repeat' (first | with_reducible exact hbA | with_reducible apply below_drew | with_reducible apply below_new | with_reducible refine bset ?_ (by have := hbA.size; first | omega | (simp; omega)))))
                (fail)
              all_goals go_wp2_with fail
              all_goals go_meet
              all_goals first
                | exact ⟨_, rfl, (RowAt.new _ _ _).drew, below_drew (below_new hbA _)⟩
                | exact ⟨_, rfl, RowAt.new _ _ _, below_new hbA _⟩
            case rest =>
              obtain ⟨gu, rfl, HG⟩ := hcut
              obtain ⟨ru, hbU⟩ := HG.out
              replace rx := rx.below hbU
              replace rs := rs.below hbU
              replace rl := rl.below hbU
              replace hBW := below2 hBW hbU
              obtain ⟨_, _, _, _, hd3⟩ := HCJ.out _ hBW
              clear HG hbU d0 d1 d2 d3 hg3 hpq hpq2
              haveI := bl_ne wc
              have y0 := fun p : Bl wc => (rl.below p.h).cell 0
              have y1 := fun p : Bl wc => (rl.below p.h).cell 1
              have x0 := fun p : Bl wc => (rx.below p.h).cell 0
              have x1 := fun p : Bl wc => (rx.below p.h).cell 1
              have x2 := fun p : Bl wc => (rx.below p.h).cell 2
              have x3 := fun p : Bl wc => (rx.below p.h).cell 3
              have v0 := fun p : Bl wc => (ru.below p.h).cell 0
              have v1 := fun p : Bl wc => (ru.below p.h).cell 1
              have v2 := fun p : Bl wc => (ru.below p.h).cell 2
              have v3 := fun p : Bl wc => (ru.below p.h).cell 3
              simp only [List.getElem?_cons_succ, List.getElem?_cons_zero] at y0 y1 x0 x1 x2 x3 v0 v1 v2 v3
              have d3 : ∀ p : Bl wc, p.W.cell? ⟨g1, i1 + j * 4 + 3, none⟩ = some (.int .i64 pln) := fun p => (HCJ.out _ (below2 hBW p.h)).2.2.2.2
              clear rl rx ru hd3 HCJ
              go_upto_region 16 with fail
              by_cases he : ln = pln
              · have cV := HCV.out he
                clear HCV
                subst he
                refine wp_region_bl (by kernel_rfl) (by kernel_rfl) ?_
                repeat (go_big_quiet_step (first | (go_at_call 31; with_reducible exact bl_call (cC _)) | (go_at_call 32; with_reducible exact bl_call (cV _))))
                refine wpQuiet_nil ?_
                intro wq hw'
                obtain ⟨⟨wz, hq⟩, hw2⟩ := hw'
                subst hw2
                replace rs := rs.below hq
                replace hBW := below2 hBW hq
                clear y0 y1 x0 x1 x2 x3 v0 v1 v2 v3 d3 cC cV
                obtain ⟨z0, z1, z2, z3, zf⟩ := cells4 rs
                obtain ⟨v', w9, hrun, hO9⟩ := HAP.out _ hBW
                have HI2 : Hid (Own1 w3 w9 34 v' ((P.take (k + 1)).map spP)) := by have e9 := HA.out; show Own1 _ _ _ _ _; rw [e9]; exact hO9
                clear HAP HA hO9 hBW rs
                go_wp2_with fail
                go_roundw
                all_goals first | (exact ⟨k + 1, by omega, by go_num, HI2⟩) | ((repeat apply Exists.intro); exact ⟨⟨k + 1, by omega, by go_num, HI2⟩, rfl⟩) | (simp [Go.RowKit.intOf]; omega)
              · have he2 : (ln == pln) = false := beq_eq_false_iff_ne.2 he
                have he3 : decide (ln = pln) = false := decide_eq_false he
                clear HCV
                refine wp_region_bl (by kernel_rfl) (by kernel_rfl) ?_
                repeat (go_big_quiet_step (first | (go_at_call 31; with_reducible exact bl_call (cC _))))
                refine wpQuiet_nil ?_
                intro wq hw'
                obtain ⟨⟨wz, hq⟩, hw2⟩ := hw'
                subst hw2
                replace rs := rs.below hq
                replace hBW := below2 hBW hq
                clear y0 y1 x0 x1 x2 x3 v0 v1 v2 v3 d3 cC
                obtain ⟨z0, z1, z2, z3, zf⟩ := cells4 rs
                obtain ⟨v', w9, hrun, hO9⟩ := HAP.out _ hBW
                have HI2 : Hid (Own1 w3 w9 34 v' ((P.take (k + 1)).map spP)) := by have e9 := HA.out; show Own1 _ _ _ _ _; rw [e9]; exact hO9
                clear HAP HA hO9 hBW rs
                go_wp2_with fail
                go_roundw
                all_goals first | (exact ⟨k + 1, by omega, by go_num, HI2⟩) | ((repeat apply Exists.intro); exact ⟨⟨k + 1, by omega, by go_num, HI2⟩, rfl⟩) | (simp [Go.RowKit.intOf]; omega)
        · have hkf : decide ((k : Int) < (q : Int)) = false := decide_eq_false (by omega)
          have hte : P.take k = P := by have := HQ.out; exact List.take_of_length_le (by omega)
          rw [hte] at hI
          have hfs : ∀ s ∈ P.map spP, FitS s := fun s hs => by
            obtain ⟨p, hp, rfl⟩ := List.mem_map.1 hs
            obtain ⟨i, hi, rfl⟩ := List.mem_iff_getElem.1 hp
            obtain ⟨_, _, _, _, h5, h6⟩ := HFW.out.ok i hi
            exact ⟨h5, h6⟩
          have hlm : (P.map spP).length ≤ 1024 := by rw [List.length_map]; have := HQ.out; omega
          have cm := make_any six (P.map spP) u7 wr hI.has hfs hlm
          rw [HFW.out.all] at cm
          have b2 := HSL.out _ hI.bl
          replace hB := below2 hB hI.bl
          have HIN : Hid (∀ x, inB (P.map spP) x = inB l x) := HFW.out.sp
          clear HI hI hte hfs HR HFW
          go_wp2_with fail
          go_at_call 11; refine cm.mono ?_; rintro e w5 ⟨u, R, why, rfl, hO, _, h2⟩
          have hRl : why = 0 ∧ R = l := by
            rcases h2 rfl with ⟨h3, h4, h5, _⟩ | ⟨_, _, L, _, _, h6, h7⟩
            · exact ⟨h3, row_ext h4 HROW.out (fun x => (h5 x).trans (HIN.out x))⟩
            · omega
          obtain ⟨rfl, rfl⟩ := hRl
          replace hB := below2 hB hO.bl
          replace b2 := b2.keep hO.bl
          have b3 := hO.has
          clear cm h2 hO hlm HIN HROW HSL
          have cs := fun (W : World) (h1 : HasSps W u R) (h2 : HasSps W (.slice o1 n c1) R) => same_any R u _ W h1 h2
          go_wp2_with fail
          go_at_call 15; refine (cs _ b3 b2).mono ?_; rintro e w6 ⟨rfl, hb⟩
          replace hB := below2 hB hb
          clear cs b2 b3 hb
          go_wp2_with fail
          go_ret
          exact ⟨rfl, hB⟩
set_option maxRecDepth 100000 in
theorem lifted (os : Os) (started : os.Started) (H : Type) (enc : TypeId × Value → H) :
    ReturnsInHanded {} Try.checked os 8 .any (Rows.spanFewestSpec.pre6 enc Try.prog Try.f8 Rows.spanFewestRow.domain false) (Rows.spanFewestSpec.post enc Try.prog Try.f8 false true false false) := by
  refine returnsInHanded_of_change_sized (C := Try.checked) own started (by kernel_rfl) Try.func8
    (ChangeSpec.witness6 (enc := enc) (C := Try.checked) false ⟨#[], #[.bool false, .slice none 0 0], []⟩ 8 (by kernel_rfl) (by kernel_rfl) (by kernel_rfl) (by kernel_rfl)) ?_
  intro W base args ds gs before hval0 hW _ hsz0 _
  have hsz : (DataW.weightsEach Try.prog (Try.f8.params.toList ++ Rows.spanFewestSpec.plain.varTypes Try.prog) (ds ++ gs)).all (· ≤ reachBytes) = true := hsz0
  clear hsz0
  have hval : ∀ (j : Nat) t v, Try.f8.params[j]? = some t → args[j]? = some v → Value.okWide Try.prog W .any base t v := hval0
  have hW' := hW
  obtain ⟨p, q, hA0, hV, rfl, hfz, hnd⟩ := hW
  have hA : DataW.TrodAll enc Try.prog W 0 (fun _ => true) true Try.f8.params.toList args.toList ds p := hA0
  rw [Try.params8] at hA hval hsz
  obtain ⟨v0, vs0, d0, ds0, p0, q0, hargs, rfl, rfl, h0, r0⟩ := trodAll_cons hA
  obtain ⟨v1, vs1, d1, ds1, p1, q1, rfl, rfl, rfl, h1, r1⟩ := trodAll_cons r0
  obtain ⟨rfl, rfl, rfl⟩ := trodAll_nil r1
  obtain rfl : args = #[v0, v1] := by cases args; simp_all
  obtain ⟨rfl, rfl⟩ := trodVars_none hV
  obtain ⟨a0, rfl, rfl, rfl⟩ := open_bool Try.underlying4 (hval 0 4 v0 rfl rfl) h0
  obtain ⟨a1, len1, cap1, rfl⟩ := okWide_slice Try.underlying22 (hval 1 22 v1 rfl rfl)
  have k1 := h1
  have lt1 : ∀ x ∈ p1, x.block < W.heap.size := by obtain ⟨m, hm⟩ := k1; exact DataW.trod_lt m _ _ _ hm
  obtain ⟨fuel1, hf1⟩ := h1
  obtain ⟨z1, b1, f1⟩ := Sp.open_spans hf1
  clear hA0 hval0
  refine (walk a0 (.slice a1 len1 cap1) z1 W b1 f1).mono fun e W' ⟨he, bel⟩ => ?_
  subst he
  exact ⟨_, rfl, _, _, _, [], _, [], hW', trodAll_mk1 (shut_bool Try.underlying4 _), (trodAll_cons_mk (shut_bool Try.underlying4 a0) (trodAll_cons_mk (Below.trod laidOut (by kernel_rfl) (of_decide_eq_true (by kernel_rfl)) k1 bel lt1) trodAll_mk0)), rfl, bel.frame _, fun h => by cases h⟩

theorem over : Rows.spanFewestRow.holds Try.pinned (OpenSpec.ofChange Rows.spanFewestSpec) :=
  OpenClaim.holds_of_wide 8 Try.f8 rfl rfl rfl rfl rfl rfl rfl ⟨rfl, rfl, rfl, rfl, rfl⟩ rfl rfl rfl rfl rfl (by kernel_rfl) Try.func8 (by kernel_rfl)
    (of_decide_eq_true (by kernel_rfl)) (by unfold Func.isWrapper; first | (rw [if_pos (by decide +kernel)]; kernel_rfl) | (rw [if_neg (by decide +kernel)]; exact ⟨rfl, rfl⟩))
    (fun os started H enc _ => lifted os started H enc)
end spanFewest
theorem span_fewest_holds : Rows.SpanFewestSaid := spanFewest.over
#print axioms span_fewest_holds
end Go.Proofs.Ytiemlaehhmlhmaa
