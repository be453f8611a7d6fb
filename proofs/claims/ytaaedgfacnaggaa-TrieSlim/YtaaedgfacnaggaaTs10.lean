/- trie.under, walked. -/
import Derived.Test.YtaaedgfacnaggaaTs09
set_option linter.unusedVariables false
namespace Go.Proofs.Ytaaedgfacnaggaa.Tr
open Go.RowKit
open Go.Proofs.Ytaaedgfacnaggaa.Lk (HasRow)
open Go.Proofs.Ytaaedgfacnaggaa.Addr (Pf okP coversB hiN loN covers_any RowAt below2 below_drew below_new bset RowAt.lt RowAt.cell RowAt.frozen RowAt.below RowAt.drew RowAt.new RowAt.alloc RowAt.set1 Bl bl_ne wp_region_bl bl_call)
attribute [-go_sem] Builtin.append_
def sliceLen : Value → Nat
  | .slice _ n _ => n
  | _ => 0
theorem rk1 {W W' : World} {cs : List Value} {t : TypeId} (h : Below (W.alloc (.cells cs.toArray t)).heap.size (W.alloc (.cells cs.toArray t)) W') : RowAt W' W.heap.size cs t := (RowAt.new W cs t).below h
theorem rk2 {W W' : World} {cs : List Value} {t : TypeId} (h : Below (W.alloc (.cells cs.toArray t)).drew.heap.size (W.alloc (.cells cs.toArray t)).drew W') : RowAt W' W.heap.size cs t := (RowAt.new W cs t).drew.below h
theorem rk3 {W W' : World} {cs : List Value} {t : TypeId} (h : Below (W.drew.alloc (.cells cs.toArray t)).heap.size (W.drew.alloc (.cells cs.toArray t)) W') : RowAt W' W.heap.size cs t := (RowAt.new W.drew cs t).below h
theorem UR.done {L : List Rt} {v : Value} {p : Pf} {N : Nat} {w wr : World} {lv u : Value} {j : Nat} (h : UR L v p N w wr lv u j) : HasTrie (N + 1) wr (fun b => w.heap.size ≤ b ∧ b < wr.heap.size) p.six u (L.take j) := by
  obtain ⟨s, us, h1, h2, h3, h4, h5, h6, h7⟩ := h.tr
  refine ⟨s, us, h1, h3, h4, hasRow_own h5, fun a n c e => ?_, fun i a b => (h6 i a b).mono _ (fun b hb => ⟨hb.1, hb.2.1⟩)⟩
  exact h5.lt a.block (by rw [e]; rfl)
/-- a node laid for a route, nothing under it yet -/
structure NG (wr W : World) (g : Nat) (r : Rt) : Prop where
  row : RowAt W g (nodeC r (.slice none 0 0)) 81
  bl : Below wr.heap.size wr W
  ge : wr.heap.size ≤ g
theorem ng_new {wq w3 : World} {r : Rt} {s0 : Bool} {s1 s2 s3 s4 s5 : Int} (hb : Below wq.heap.size wq w3) (h : nodeC r (.slice none 0 0) = [.bool s0, .int .u64 s1, .int .u64 s2, .int .i64 s3, .bool s0, .int .u64 s1, .int .u64 s2, .int .i64 s3, .int .u8 s4, .int .i64 s5, .slice none 0 0]) : NG wq (w3.alloc (.cells #[.bool s0, .int .u64 s1, .int .u64 s2, .int .i64 s3, .bool s0, .int .u64 s1, .int .u64 s2, .int .i64 s3, .int .u8 s4, .int .i64 s5, .slice none 0 0] 81)) w3.heap.size r :=
  ⟨by rw [h]; exact RowAt.new w3 [_, _, _, _, _, _, _, _, _, _, _] _, below_new hb _, hb.size⟩
theorem ng_at {wq w3 : World} {r : Rt} {s0 : Bool} {s1 s2 s3 s4 s5 : Int} {g : Nat} {z0 z1 z2 z3 z4 z5 z6 z7 z8 z9 z10 : Value} (hb : Below wq.heap.size wq w3) (hE : RowAt w3 g [z0, z1, z2, z3, z4, z5, z6, z7, z8, z9, z10] 81) (hg : wq.heap.size ≤ g) (h : nodeC r (.slice none 0 0) = [.bool s0, .int .u64 s1, .int .u64 s2, .int .i64 s3, .bool s0, .int .u64 s1, .int .u64 s2, .int .i64 s3, .int .u8 s4, .int .i64 s5, .slice none 0 0]) :
    NG wq (((((((((((w3.setCell ⟨g, 0, none⟩ (.bool s0)).setCell ⟨g, 1, none⟩ (.int .u64 s1)).setCell ⟨g, 2, none⟩ (.int .u64 s2)).setCell ⟨g, 3, none⟩ (.int .i64 s3)).setCell ⟨g, 4, none⟩ (.bool s0)).setCell ⟨g, 5, none⟩ (.int .u64 s1)).setCell ⟨g, 6, none⟩ (.int .u64 s2)).setCell ⟨g, 7, none⟩ (.int .i64 s3)).setCell ⟨g, 8, none⟩ (.int .u8 s4)).setCell ⟨g, 9, none⟩ (.int .i64 s5)).setCell ⟨g, 10, none⟩ (.slice none 0 0)) g r :=
  ⟨by rw [h]; exact ((((((((((hE.set1 0 _).set1 1 _).set1 2 _).set1 3 _).set1 4 _).set1 5 _).set1 6 _).set1 7 _).set1 8 _).set1 9 _).set1 10 _, bset (bset (bset (bset (bset (bset (bset (bset (bset (bset (bset hb hg) hg) hg) hg) hg) hg) hg) hg) hg) hg) hg, hg⟩
set_option maxHeartbeats 16000000 in
set_option maxRecDepth 20000 in
theorem under_any (N : Nat) : ∀ (L : List Rt) (v : Value) (p : Pf) (w : World), L.length < N → HasRts w v L → Up L → (∀ x ∈ L, okP x.pf = true) → FitP p → L.length ≤ 256 →
    Calls Try.prog 46 #[.agg #[.bool p.six, .int .u64 (hiN p.n : Int), .int .u64 (loN p.n : Int), .int .i64 p.len], v, .func (.func 24) #[] #[]] w fun e w' => ∃ (j : Nat) (u lv : Value), e = .returned (.tuple #[u, lv]) ∧ j ≤ L.length ∧ (∀ W : World, HasRts W v L → HasRts W lv (L.drop j)) ∧ (∀ x ∈ L.take j, coversB p x.pf = true) ∧ (∀ h : j < L.length, coversB p L[j].pf = false) ∧ HasTrie N w' (fun b => w.heap.size ≤ b ∧ b < w'.heap.size) p.six u (L.take j) ∧ Below w.heap.size w w' := by
  induction N with
  | zero => intro L v p w h; omega
  | succ N ih =>
    intro L v p w hN hl hu hok hp hlen
    have HIH : Hid (∀ (L : List Rt) (v : Value) (p : Pf) (w : World), L.length < N → HasRts w v L → Up L → (∀ x ∈ L, okP x.pf = true) → FitP p → L.length ≤ 256 → Calls Try.prog 46 #[.agg #[.bool p.six, .int .u64 (hiN p.n : Int), .int .u64 (loN p.n : Int), .int .i64 p.len], v, .func (.func 24) #[] #[]] w fun e w' => ∃ (j : Nat) (u lv : Value), e = .returned (.tuple #[u, lv]) ∧ j ≤ L.length ∧ (∀ W : World, HasRts W v L → HasRts W lv (L.drop j)) ∧ (∀ x ∈ L.take j, coversB p x.pf = true) ∧ (∀ h : j < L.length, coversB p L[j].pf = false) ∧ HasTrie N w' (fun b => w.heap.size ≤ b ∧ b < w'.heap.size) p.six u (L.take j) ∧ Below w.heap.size w w') := ih
    clear ih
    have HCV : Hid (∀ (q : Pf), okP q = true → ∀ W : World, Calls Try.prog 68 #[.agg #[.bool p.six, .int .u64 (hiN p.n : Int), .int .u64 (loN p.n : Int), .int .i64 p.len], .agg #[.bool q.six, .int .u64 (hiN q.n : Int), .int .u64 (loN q.n : Int), .int .i64 q.len]] W fun e w' => e = .returned (.bool (coversB p q)) ∧ Below W.heap.size W w') := fun q hq W => covers_any p q W hp.1 hp.2 (fit_ok hq).1 (fit_ok hq).2
    obtain ⟨X, hX⟩ : ∃ X, X = w.alloc (.cells #[.bool p.six, .int .u64 (hiN p.n : Int), .int .u64 (loN p.n : Int), .int .i64 p.len] 32) := ⟨_, rfl⟩
    have hB : Below w.heap.size w X := by rw [hX]; exact below_new (Below.refl _ _) _
    have r1 : RowAt X w.heap.size [.bool p.six, .int .u64 (hiN p.n : Int), .int .u64 (loN p.n : Int), .int .i64 p.len] 32 := by rw [hX]; exact RowAt.new _ _ _
    have HRow : Hid (∀ W, Below X.heap.size X W → RowAt W w.heap.size [.bool p.six, .int .u64 (hiN p.n : Int), .int .u64 (loN p.n : Int), .int .i64 p.len] 32) := fun W hb => RowAt.below r1 hb
    have H0 : Hid (UR L v p N w X v (.slice none 0 0) 0) := ⟨Nat.zero_le _, fun W h => h, by simp, hB, [], [], rfl, Nat.le_refl _, rfl, good_nil _, World.ownsRow_nil _ _ _ _, fun i h => by simp at h, by simp⟩
    have HV : Hid (∀ W : World, Below w.heap.size w W → HasRts W v L) := fun W hb => hl.keep hb
    have HU : Hid (Up L ∧ ∀ x ∈ L, okP x.pf = true) := ⟨hu, hok⟩
    have hXs : X.heap.size = w.heap.size + 1 := by rw [hX]; simp
    obtain ⟨t0, ht0⟩ : ∃ t0, t0 = p.six := ⟨_, rfl⟩
    obtain ⟨t1, ht1⟩ : ∃ t1, t1 = (hiN p.n : Int) := ⟨_, rfl⟩
    obtain ⟨t2, ht2⟩ : ∃ t2, t2 = (loN p.n : Int) := ⟨_, rfl⟩
    obtain ⟨t3, ht3⟩ : ∃ t3, t3 = p.len := ⟨_, rfl⟩
    rw [← ht0, ← ht1, ← ht2, ← ht3] at HRow hX ⊢
    have HCV2 : Hid (∀ (q : Pf), okP q = true → ∀ W : World, Calls Try.prog 68 #[.agg #[.bool t0, .int .u64 t1, .int .u64 t2, .int .i64 t3], .agg #[.bool q.six, .int .u64 (hiN q.n : Int), .int .u64 (loN q.n : Int), .int .i64 q.len]] W fun e w' => e = .returned (.bool (coversB p q)) ∧ Below W.heap.size W w') := by rw [ht0, ht1, ht2, ht3]; exact HCV
    have HT0 : Hid (t0 = p.six) := ht0
    clear HCV hl hu hok hp r1 ht0 ht1 ht2 ht3 hB
    go_enter Try.func46, Try.ntmps46
    go_upto_region 1 with fail
    rw [← hX]
    clear hX
    go_wp2_with fail
    go_loopw [1, 8] (fun lv u wr => ∃ (j : Nat), (∃ o c, lv = .slice o (L.length - j) c ∧ c ≤ 9223372036854775807 ∧ L.length - j ≤ c) ∧ Below X.heap.size X wr ∧ Hid (UR L v p N w wr lv u j)) (fun lv _ _ => sliceLen lv)
    case atStart =>
      obtain ⟨o, c, e, h1, h2⟩ := Lk.HasRow.slice (H0.out.lt _ (HV.out _ H0.out.bl))
      exact ⟨0, ⟨o, c, by simpa using e, h2, by simpa using h1⟩, Below.refl _ _, H0⟩
    case round =>
      obtain ⟨j, ⟨o, c, rfl, hc9, hnc⟩, hbX, HI⟩ := hrel
      by_cases hlt : j < L.length
      · have hh := HI.out.lt _ (HV.out _ HI.out.bl)
        have hdl : 0 < (L.drop j).length := by rw [List.length_drop]; omega
        obtain ⟨b, i, rfl, hbl, ax⟩ := HasRts.cell hh 0 hdl
        have hd0 : (L.drop j)[0] = L[j] := by rw [List.getElem_drop]; simp
        rw [hd0] at ax
        simp only [Nat.zero_mul, Nat.add_zero] at ax
        obtain ⟨b0, b1, b2, b3, b4, b5⟩ := six_at ax
        have hokj := HU.out.2 L[j] (List.getElem_mem hlt)
        have cv := HCV2.out L[j].pf hokj
        have HCb : Hid (∀ B, coversB p L[j].pf = B → ∀ h : j < L.length, coversB p L[j].pf = B) := fun B h _ => h
        have hn1 : (1 : Int) ≤ ((L.length - j : Nat) : Int) := by omega
        have hn0 : (0 : Int) < ((L.length - j : Nat) : Int) := by omega
        have hn256 : ((L.length - j : Nat) : Int) ≤ 256 := by omega
        have HNN : Hid (∃ n, n = L.length - j) := ⟨_, rfl⟩
        obtain ⟨n, hn⟩ : ∃ n, n = L.length - j := ⟨_, rfl⟩
        have HNJ : Hid (n = L.length - j) := hn
        rw [← hn] at hn1 hn0 hn256 hnc HI hh ⊢
        clear HNN hn
        have hq1 : decide ((0 : Int) < (n : Int)) = true := decide_eq_true hn0
        have hq2 : decide (0 < n) = true := decide_eq_true (by omega)
        have hn00 : 0 < n := by omega
        obtain ⟨rk, hrk⟩ : ∃ rk, rk = L[j] := ⟨_, rfl⟩
        have HRK : Hid (∀ h : j < L.length, rk = L[j]) := fun _ => hrk
        rw [← hrk] at b0 b1 b2 b3 b4 b5 cv hokj HCb
        clear hrk ax hd0 hdl
        have cg := fun W => grown1_walk rk.pf.six (hiN rk.pf.n : Int) (loN rk.pf.n : Int) rk.pf.len (rk.act.k : Int) rk.act.i W
        obtain ⟨s0, hs0⟩ : ∃ s0, s0 = rk.pf.six := ⟨_, rfl⟩
        obtain ⟨s1, hs1⟩ : ∃ s1, s1 = (hiN rk.pf.n : Int) := ⟨_, rfl⟩
        obtain ⟨s2, hs2⟩ : ∃ s2, s2 = (loN rk.pf.n : Int) := ⟨_, rfl⟩
        obtain ⟨s3, hs3⟩ : ∃ s3, s3 = rk.pf.len := ⟨_, rfl⟩
        obtain ⟨s4, hs4⟩ : ∃ s4, s4 = (rk.act.k : Int) := ⟨_, rfl⟩
        obtain ⟨s5, hs5⟩ : ∃ s5, s5 = rk.act.i := ⟨_, rfl⟩
        rw [← hs0, ← hs1, ← hs2, ← hs3, ← hs4, ← hs5] at cg
        rw [← hs0] at b0
        rw [← hs1] at b1
        rw [← hs2] at b2
        rw [← hs3] at b3
        rw [← hs4] at b4
        rw [← hs5] at b5
        rw [← hs0, ← hs1, ← hs2, ← hs3] at cv
        have HND : Hid (∀ u : Value, nodeC rk u = [.bool s0, .int .u64 s1, .int .u64 s2, .int .i64 s3, .bool s0, .int .u64 s1, .int .u64 s2, .int .i64 s3, .int .u8 s4, .int .i64 s5, u]) := fun u => by rw [hs0, hs1, hs2, hs3, hs4, hs5]; rfl
        have HPF : Hid ((s0 = rk.pf.six ∧ s1 = (hiN rk.pf.n : Int)) ∧ s2 = (loN rk.pf.n : Int) ∧ s3 = rk.pf.len) := ⟨⟨hs0, hs1⟩, hs2, hs3⟩
        clear hs0 hs1 hs2 hs3 hs4 hs5
        have u0 : ∀ p : Bl wr, p.W.cell? ⟨b, i, none⟩ = some (.bool s0) := fun p => (p.h.cell (p := ⟨b, i, none⟩) hbl).trans b0
        have u1 : ∀ p : Bl wr, p.W.cell? ⟨b, i + 1, none⟩ = some (.int .u64 s1) := fun p => (p.h.cell (p := ⟨b, i + 1, none⟩) hbl).trans b1
        have u2 : ∀ p : Bl wr, p.W.cell? ⟨b, i + 2, none⟩ = some (.int .u64 s2) := fun p => (p.h.cell (p := ⟨b, i + 2, none⟩) hbl).trans b2
        have u3 : ∀ p : Bl wr, p.W.cell? ⟨b, i + 3, none⟩ = some (.int .i64 s3) := fun p => (p.h.cell (p := ⟨b, i + 3, none⟩) hbl).trans b3
        have u4 : ∀ p : Bl wr, p.W.cell? ⟨b, i + 4, none⟩ = some (.int .u8 s4) := fun p => (p.h.cell (p := ⟨b, i + 4, none⟩) hbl).trans b4
        have u5 : ∀ p : Bl wr, p.W.cell? ⟨b, i + 5, none⟩ = some (.int .i64 s5) := fun p => (p.h.cell (p := ⟨b, i + 5, none⟩) hbl).trans b5
        have rr := HRow.out _ hbX
        have m0 : ∀ p : Bl wr, p.W.cell? ⟨w.heap.size, 0, none⟩ = some (.bool t0) := fun p => (rr.below p.h).cell 0
        have m1 : ∀ p : Bl wr, p.W.cell? ⟨w.heap.size, 1, none⟩ = some (.int .u64 t1) := fun p => (rr.below p.h).cell 1
        have m2 : ∀ p : Bl wr, p.W.cell? ⟨w.heap.size, 2, none⟩ = some (.int .u64 t2) := fun p => (rr.below p.h).cell 2
        have m3 : ∀ p : Bl wr, p.W.cell? ⟨w.heap.size, 3, none⟩ = some (.int .i64 t3) := fun p => (rr.below p.h).cell 3
        haveI := bl_ne wr
        clear rr hh
        cases hcv : coversB p rk.pf
        · rw [hcv] at cv
          have HFC : Hid (∀ h : j < L.length, coversB p L[j].pf = false) := fun h => by rw [← HRK.out h]; exact hcv
          clear hcv HCb
          go_wp2_with fail
          refine wp_region_bl (by kernel_rfl) (by kernel_rfl) ?_
          repeat (go_big_quiet_step (first | (go_at_call 24; with_reducible exact bl_call (cg _)) | (go_at_call 68; with_reducible exact bl_call (cv _))))
          refine wpQuiet_nil ?_
          intro wq hw'
          obtain ⟨⟨wz, hq⟩, hw2⟩ := hw'
          subst hw2
          have HF := HI.out.below hq
          clear u0 u1 u2 u3 u4 u5 m0 m1 m2 m3 hq HI b0 b1 b2 b3 b4 b5
          go_wp2_with fail
          go_ret2
          exact ⟨j, _, _, rfl, HF.jl, HF.lt, HF.cov, HFC.out, by rw [HT0.out]; exact HF.done, HF.bl⟩
        · rw [hcv] at cv
          have HCT : Hid (coversB p rk.pf = true) := hcv
          clear hcv HCb
          go_wp2_with fail
          refine wp_region_bl (by kernel_rfl) (by kernel_rfl) ?_
          repeat (go_big_quiet_step (first | (go_at_call 24; with_reducible exact bl_call (cg _)) | (go_at_call 68; with_reducible exact bl_call (cv _))))
          refine wpQuiet_nil ?_
          intro wq hw'
          obtain ⟨⟨wz, hq⟩, hw2⟩ := hw'
          subst hw2
          have HF := HI.out.below hq
          have hbX2 := below2 hbX hq
          clear u0 u1 u2 u3 u4 u5 m0 m1 m2 m3 HI cv
          have hblq := Nat.lt_of_lt_of_le hbl hq.size
          replace b0 := (hq.cell (p := ⟨b, i, none⟩) hbl).trans b0
          replace b1 := (hq.cell (p := ⟨b, i + 1, none⟩) hbl).trans b1
          replace b2 := (hq.cell (p := ⟨b, i + 2, none⟩) hbl).trans b2
          replace b3 := (hq.cell (p := ⟨b, i + 3, none⟩) hbl).trans b3
          replace b4 := (hq.cell (p := ⟨b, i + 4, none⟩) hbl).trans b4
          replace b5 := (hq.cell (p := ⟨b, i + 5, none⟩) hbl).trans b5
          clear hq hbX hbl
          go_wp2_with fail
          go_cut [9] (fun d9 wc => ∃ g : Nat, d9 = .pointer (some ⟨g, 0, none⟩) ∧ Hid (NG wq wc g rk))
          case first =>
            have hbA : Below wq.heap.size wq wq := Below.refl _ _
            have HSK : Hid (∀ W : World, Below wq.heap.size wq W → W.cell? ⟨b, i, none⟩ = some (.bool s0) ∧ W.cell? ⟨b, i + 1, none⟩ = some (.int .u64 s1) ∧ W.cell? ⟨b, i + 2, none⟩ = some (.int .u64 s2) ∧ W.cell? ⟨b, i + 3, none⟩ = some (.int .i64 s3) ∧ W.cell? ⟨b, i + 4, none⟩ = some (.int .u8 s4) ∧ W.cell? ⟨b, i + 5, none⟩ = some (.int .i64 s5)) := fun W hb =>
              ⟨(hb.cell (p := ⟨b, i, none⟩) hblq).trans b0, (hb.cell (p := ⟨b, i + 1, none⟩) hblq).trans b1, (hb.cell (p := ⟨b, i + 2, none⟩) hblq).trans b2, (hb.cell (p := ⟨b, i + 3, none⟩) hblq).trans b3, (hb.cell (p := ⟨b, i + 4, none⟩) hblq).trans b4, (hb.cell (p := ⟨b, i + 5, none⟩) hblq).trans b5⟩
            clear HF
            go_region_held3 (fun W => W.cell? ⟨b, i, none⟩ = some (.bool s0) ∧ W.cell? ⟨b, i + 1, none⟩ = some (.int .u64 s1) ∧ W.cell? ⟨b, i + 2, none⟩ = some (.int .u64 s2) ∧ W.cell? ⟨b, i + 3, none⟩ = some (.int .i64 s3) ∧ W.cell? ⟨b, i + 4, none⟩ = some (.int .u8 s4) ∧ W.cell? ⟨b, i + 5, none⟩ = some (.int .i64 s5))
              (first
                | (refine HSK.out _ ?_
                   repeat' (first | with_reducible exact hbA | with_reducible apply below_drew | with_reducible apply below_new | with_reducible refine bset ?_ (by have := hbA.size; first | omega | (simp; omega)))))
              (first
                | (go_at_call 24
                   refine (cg _).mono ?_
                   rintro e w3 ⟨rfl, hb3⟩
                   have hbN : Below wq.heap.size wq w3 := below2 (by repeat' (first | with_reducible exact hbA | with_reducible apply below_drew | with_reducible apply below_new)) hb3
                   clear hbA
                   have hbA := hbN
                   clear hbN
                   (first | (have hE : RowAt w3 wq.heap.size [.bool false, .int .u64 0, .int .u64 0, .int .i64 0, .bool false, .int .u64 0, .int .u64 0, .int .i64 0, .int .u8 0, .int .i64 0, .slice none 0 0] 81 := (by with_reducible first | exact rk1 hb3 | exact rk2 hb3 | exact rk3 hb3); have f0 := hE.cell 0; have f1 := hE.cell 1; have f2 := hE.cell 2; have f3 := hE.cell 3; have f4 := hE.cell 4; have f5 := hE.cell 5; have f6 := hE.cell 6; have f7 := hE.cell 7; have f8 := hE.cell 8; have f9 := hE.cell 9; have f10 := hE.cell 10; simp only [List.getElem?_cons_zero, List.getElem?_cons_succ] at f0 f1 f2 f3 f4 f5 f6 f7 f8 f9 f10; have ff := hE.frozen; have hfl := hE.lt) | skip)))
            all_goals go_wp2_with fail
            all_goals go_meet
            all_goals first
              | (refine ⟨_, rfl, ?_⟩; show NG _ _ _ _; with_reducible exact ng_new hbA (HND.out _))
              | (refine ⟨_, rfl, ?_⟩; show NG _ _ _ _; with_reducible exact ng_at hbA hE (Nat.le_refl _) (HND.out _))
          case rest =>
            obtain ⟨g, rfl, HNG⟩ := hcut
            have hgr := HNG.out.row
            rw [HND.out] at hgr
            have f0 := hgr.cell 0
            have f1 := hgr.cell 1
            have f2 := hgr.cell 2
            have f3 := hgr.cell 3
            simp only [List.getElem?_cons_zero, List.getElem?_cons_succ] at f0 f1 f2 f3
            have hlj := hlt
            have hcj : coversB p L[j].pf = true := by rw [← HRK.out hlt]; exact HCT.out
            have hlw := HF.lt _ (HV.out _ (below2 HF.bl HNG.out.bl))
            have hsub : ∃ o1, (if c = 1 then some (⟨b, i, none⟩ : Addr) else some ⟨b, i + 6, none⟩) = o1 ∧ ∀ W : World, HasRts W v L → HasRts W (.slice o1 (n - 1) (c - 1)) (L.drop (j + 1)) := by
              refine ⟨_, rfl, fun W hW => ?_⟩
              have h1 := HF.lt W hW
              have hnl : (L.drop j).length = n := by rw [List.length_drop]; exact HNJ.out.symm
              by_cases hc1 : c = 1
              · rw [if_pos hc1]
                have e0 : L.drop (j + 1) = [] := List.drop_of_length_le (by have := HNJ.out; omega)
                rw [e0, show n - 1 = 0 by omega, hc1]
                exact has_empty _ _ _ (by omega)
              · rw [if_neg hc1]
                have h2 := h1.drop 1 (by rw [hnl]; omega)
                rw [hnl, List.drop_drop] at h2
                exact h2
            obtain ⟨o1, ho1, hsb⟩ := hsub
            have ci := HIH.out (L.drop (j + 1)) (.slice o1 (n - 1) (c - 1)) rk.pf wc.drew (by rw [List.length_drop]; omega) (hsb _ (HV.out _ (below_drew (below2 HF.bl HNG.out.bl)))) (HU.out.1.sublist (List.drop_sublist _ _)) (fun x hx => HU.out.2 x (List.mem_of_mem_drop hx)) (fit_ok hokj) (by rw [List.length_drop]; omega)
            rw [← HPF.out.1.1, ← HPF.out.1.2, ← HPF.out.2.1, ← HPF.out.2.2] at ci
            have HSB : Hid (∀ W : World, HasRts W v L → HasRts W (.slice o1 (n - 1) (c - 1)) (L.drop (j + 1))) := hsb
            have HSK : Hid (∀ W : World, Below wc.heap.size wc W → W.cell? ⟨g, 0, none⟩ = some (.bool s0) ∧ W.cell? ⟨g, 1, none⟩ = some (.int .u64 s1) ∧ W.cell? ⟨g, 2, none⟩ = some (.int .u64 s2) ∧ W.cell? ⟨g, 3, none⟩ = some (.int .i64 s3)) := fun W hb => ⟨(hgr.below hb).cell 0, (hgr.below hb).cell 1, (hgr.below hb).cell 2, (hgr.below hb).cell 3⟩
            have HSK2 : Hid (∀ (W : World) (u : Value), Below wc.heap.size wc W → (W.setCell ⟨g, 10, none⟩ u).cell? ⟨g, 0, none⟩ = some (.bool s0) ∧ (W.setCell ⟨g, 10, none⟩ u).cell? ⟨g, 1, none⟩ = some (.int .u64 s1) ∧ (W.setCell ⟨g, 10, none⟩ u).cell? ⟨g, 2, none⟩ = some (.int .u64 s2) ∧ (W.setCell ⟨g, 10, none⟩ u).cell? ⟨g, 3, none⟩ = some (.int .i64 s3)) := fun W u hb => ⟨((hgr.below hb).set1 10 u).cell 0, ((hgr.below hb).set1 10 u).cell 1, ((hgr.below hb).set1 10 u).cell 2, ((hgr.below hb).set1 10 u).cell 3⟩
            have HF2 : Hid (UR L v p N w wq (.slice (some ⟨b, i, none⟩) n c) u8 j) := HF
            have hbA : Below wc.heap.size wc wc := Below.refl _ _
            have h1c : (1 : Int) ≤ (c : Int) := by omega
            have h1n : 1 ≤ n := by omega
            clear HF hlw hsb b0 b1 b2 b3 b4 b5
            by_cases hc1 : c = 1
            · rw [if_pos hc1] at ho1
              have hn1e : n = 1 := by omega
              subst hc1 ho1 hn1e
              go_wp2_with fail
              go_region_held3 (fun W => W.cell? ⟨g, 0, none⟩ = some (.bool s0) ∧ W.cell? ⟨g, 1, none⟩ = some (.int .u64 s1) ∧ W.cell? ⟨g, 2, none⟩ = some (.int .u64 s2) ∧ W.cell? ⟨g, 3, none⟩ = some (.int .i64 s3))
                (first
                  | (with_reducible refine HSK2.out _ _ ?_
                     with_reducible exact hbA)
                  | (refine HSK.out _ ?_
                     repeat' (first | with_reducible exact hbA | with_reducible apply below_drew | with_reducible apply below_new)))
                (first
                  | (go_at_call 46; refine (ci : Calls _ _ _ _ _).mono ?_; rintro e w4 ⟨j2, u2, lv2, rfl, q1, q2, q3, q4, q5, hb4⟩
                     obtain ⟨oo, nn, cc, rfl⟩ := trie_slice q5
                     have hbN : Below wc.heap.size wc w4 := below2 (below_drew hbA) hb4
                     clear hbA
                     have hbA := hbN
                     clear hbN
                     have f10 : w4.cell? ⟨g, 10, none⟩ = some (.slice none 0 0) := (hgr.below hbA).cell 10
                     have ff := (hgr.below hbA).frozen
                     have hgl := (hgr.below hbA).lt))
              clear HSK HSK2 f10 ff
              obtain ⟨W5, hW5⟩ : ∃ W5, W5 = w4.setCell ⟨g, 10, none⟩ (.slice oo nn cc) := ⟨_, rfl⟩
              have hgr5 : RowAt W5 g [.bool s0, .int .u64 s1, .int .u64 s2, .int .i64 s3, .bool s0, .int .u64 s1, .int .u64 s2, .int .i64 s3, .int .u8 s4, .int .i64 s5, .slice oo nn cc] 81 := by rw [hW5]; exact (hgr.below hbA).set1 10 _
              have hb5 : Below wq.heap.size wq W5 := by rw [hW5]; exact bset (below2 HNG.out.bl hbA) HNG.out.ge
              have q6 : HasTrie N W5 (fun b => wc.heap.size ≤ b ∧ b < W5.heap.size) rk.pf.six (.slice oo nn cc) ((L.drop (j + 1)).take j2) := by
                have hgw : g < wc.heap.size := hgr.lt
                rw [HPF.out.1.1] at q5
                refine (HasTrie.keepQ N (W' := W5) q5 (fun b hb => ?_) (by rw [hW5]; simp)).mono _ (fun b hb => ⟨hb.1, by have := hb.2; rw [hW5]; simpa using this⟩)
                rw [hW5]
                exact heap_setCell_other w4 ⟨g, 10, none⟩ b _ (fun e => by have := hb.1; simp at e; have h0 : wc.drew.heap.size = wc.heap.size := rfl; omega)
              rw [← hW5]
              clear hW5 q5 ci f0 f1 f2 f3
              have HF5 := HF2.out.below hb5
              obtain ⟨s, us, h1, h2, h3, h4, h5, h6, h7⟩ := HF5.tr
              have hsl : s.length ≤ 1000 := by omega
              obtain ⟨g', cap, w6, hrun, ho, hgw, hg2⟩ := append_node rk oo nn cc h5 hsl HF5.bl.size
              have hbX6 : Below X.heap.size X w6 := by
                have hbx5 : Below X.heap.size X W5 := below2 hbX2 hb5
                refine (below_new hbx5 (.cells (nodeC rk (.slice oo nn cc)).toArray 81)).grown hgw (by rw [World.size_alloc]; have := hbx5.size; omega) (fun k e => ?_)
                have h8 := (h5.lt k e).1
                have hbox : W5.heap[w.heap.size]? = some (.cells _ 32 (0, 0)) := HRow.out W5 hbx5
                rcases h5.2 with ⟨e0, _⟩ | ⟨g8, cap8, cur8, e8, hg8, hh8, _⟩
                · rw [e0] at e; cases e
                · rw [e8] at e
                  have ek : g8 = k := by injection e
                  subst ek
                  have hne : g8 ≠ w.heap.size := fun e9 => by
                    rw [e9, hbox] at hh8
                    injection hh8 with hh8
                    injection hh8 with _ hh8
                    revert hh8
                    decide
                  omega
              have HN : Hid (UR L v p N w w6 lv2 (.slice (some ⟨g', 0, none⟩) (s.length + 1) cap) (j + 1 + j2)) := by
                refine HF5.next hlj HU.out.1 HU.out.2 hcj h1 h2 h3 h4 h5 h6 h7 (j2 := j2) (u2 := .slice oo nn cc) q1 (fun W hW => ?_) ?_ ?_ (bq := wc.heap.size) ?_ ?_ ?_ (X := .cells (nodeC rk (.slice oo nn cc)).toArray 81) ?_ hgw hg2
                · have := q2 W (HSB.out W hW)
                  rw [List.drop_drop] at this
                  exact this
                · rw [← HRK.out hlj]; exact q3
                · rw [← HRK.out hlj]; exact q4
                · exact Nat.le_trans HF2.out.bl.size HNG.out.bl.size
                · intro k e
                  obtain ⟨_, _, _, _, _, _, k5, _⟩ := HF2.out.tr
                  exact Nat.lt_of_lt_of_le (k5.lt k e).2 HNG.out.bl.size
                · rw [← HRK.out hlj]; exact q6
                · rw [← HRK.out hlj]; exact ho
              obtain ⟨o2, c2, rfl, hh1, hh2⟩ := Lk.HasRow.slice (HN.out.lt _ (HV.out _ HN.out.bl))
              have HL2 : Hid ((L.drop (j + 1 + j2)).length = L.length - (j + 1 + j2) ∧ L.length - (j + 1 + j2) < L.length - j) := ⟨List.length_drop, by omega⟩
              rw [HL2.out.1] at HN hh1 ⊢
              rw [HND.out] at hrun
              have y0 := hgr5.cell 0
              have y1 := hgr5.cell 1
              have y2 := hgr5.cell 2
              have y3 := hgr5.cell 3
              have y4 := hgr5.cell 4
              have y5 := hgr5.cell 5
              have y6 := hgr5.cell 6
              have y7 := hgr5.cell 7
              have y8 := hgr5.cell 8
              have y9 := hgr5.cell 9
              have y10 := hgr5.cell 10
              simp only [List.getElem?_cons_zero, List.getElem?_cons_succ] at y0 y1 y2 y3 y4 y5 y6 y7 y8 y9 y10
              clear h1 h2 h3 h4 h5 h6 h7 ho hgw hg2 q1 q2 q3 q4 q6 hgr hgr5 HF5 HF2 HSB hb5
              go_wp2_with fail
              go_roundw
              case rel => exact ⟨j + 1 + j2, ⟨o2, c2, rfl, hh2, hh1⟩, hbX6, HN⟩
              case measure => have h91 := HL2.out.2; have h92 := HNJ.out; simp [sliceLen]; omega
            · rw [if_neg hc1] at ho1
              subst ho1
              go_wp2_with fail
              go_region_held3 (fun W => W.cell? ⟨g, 0, none⟩ = some (.bool s0) ∧ W.cell? ⟨g, 1, none⟩ = some (.int .u64 s1) ∧ W.cell? ⟨g, 2, none⟩ = some (.int .u64 s2) ∧ W.cell? ⟨g, 3, none⟩ = some (.int .i64 s3))
                (first
                  | (with_reducible refine HSK2.out _ _ ?_
                     with_reducible exact hbA)
                  | (refine HSK.out _ ?_
                     repeat' (first | with_reducible exact hbA | with_reducible apply below_drew | with_reducible apply below_new)))
                (first
                  | (go_at_call 46; refine (ci : Calls _ _ _ _ _).mono ?_; rintro e w4 ⟨j2, u2, lv2, rfl, q1, q2, q3, q4, q5, hb4⟩
                     obtain ⟨oo, nn, cc, rfl⟩ := trie_slice q5
                     have hbN : Below wc.heap.size wc w4 := below2 (below_drew hbA) hb4
                     clear hbA
                     have hbA := hbN
                     clear hbN
                     have f10 : w4.cell? ⟨g, 10, none⟩ = some (.slice none 0 0) := (hgr.below hbA).cell 10
                     have ff := (hgr.below hbA).frozen
                     have hgl := (hgr.below hbA).lt))
              clear HSK HSK2 f10 ff
              obtain ⟨W5, hW5⟩ : ∃ W5, W5 = w4.setCell ⟨g, 10, none⟩ (.slice oo nn cc) := ⟨_, rfl⟩
              have hgr5 : RowAt W5 g [.bool s0, .int .u64 s1, .int .u64 s2, .int .i64 s3, .bool s0, .int .u64 s1, .int .u64 s2, .int .i64 s3, .int .u8 s4, .int .i64 s5, .slice oo nn cc] 81 := by rw [hW5]; exact (hgr.below hbA).set1 10 _
              have hb5 : Below wq.heap.size wq W5 := by rw [hW5]; exact bset (below2 HNG.out.bl hbA) HNG.out.ge
              have q6 : HasTrie N W5 (fun b => wc.heap.size ≤ b ∧ b < W5.heap.size) rk.pf.six (.slice oo nn cc) ((L.drop (j + 1)).take j2) := by
                have hgw : g < wc.heap.size := hgr.lt
                rw [HPF.out.1.1] at q5
                refine (HasTrie.keepQ N (W' := W5) q5 (fun b hb => ?_) (by rw [hW5]; simp)).mono _ (fun b hb => ⟨hb.1, by have := hb.2; rw [hW5]; simpa using this⟩)
                rw [hW5]
                exact heap_setCell_other w4 ⟨g, 10, none⟩ b _ (fun e => by have := hb.1; simp at e; have h0 : wc.drew.heap.size = wc.heap.size := rfl; omega)
              rw [← hW5]
              clear hW5 q5 ci f0 f1 f2 f3
              have HF5 := HF2.out.below hb5
              obtain ⟨s, us, h1, h2, h3, h4, h5, h6, h7⟩ := HF5.tr
              have hsl : s.length ≤ 1000 := by omega
              obtain ⟨g', cap, w6, hrun, ho, hgw, hg2⟩ := append_node rk oo nn cc h5 hsl HF5.bl.size
              have hbX6 : Below X.heap.size X w6 := by
                have hbx5 : Below X.heap.size X W5 := below2 hbX2 hb5
                refine (below_new hbx5 (.cells (nodeC rk (.slice oo nn cc)).toArray 81)).grown hgw (by rw [World.size_alloc]; have := hbx5.size; omega) (fun k e => ?_)
                have h8 := (h5.lt k e).1
                have hbox : W5.heap[w.heap.size]? = some (.cells _ 32 (0, 0)) := HRow.out W5 hbx5
                rcases h5.2 with ⟨e0, _⟩ | ⟨g8, cap8, cur8, e8, hg8, hh8, _⟩
                · rw [e0] at e; cases e
                · rw [e8] at e
                  have ek : g8 = k := by injection e
                  subst ek
                  have hne : g8 ≠ w.heap.size := fun e9 => by
                    rw [e9, hbox] at hh8
                    injection hh8 with hh8
                    injection hh8 with _ hh8
                    revert hh8
                    decide
                  omega
              have HN : Hid (UR L v p N w w6 lv2 (.slice (some ⟨g', 0, none⟩) (s.length + 1) cap) (j + 1 + j2)) := by
                refine HF5.next hlj HU.out.1 HU.out.2 hcj h1 h2 h3 h4 h5 h6 h7 (j2 := j2) (u2 := .slice oo nn cc) q1 (fun W hW => ?_) ?_ ?_ (bq := wc.heap.size) ?_ ?_ ?_ (X := .cells (nodeC rk (.slice oo nn cc)).toArray 81) ?_ hgw hg2
                · have := q2 W (HSB.out W hW)
                  rw [List.drop_drop] at this
                  exact this
                · rw [← HRK.out hlj]; exact q3
                · rw [← HRK.out hlj]; exact q4
                · exact Nat.le_trans HF2.out.bl.size HNG.out.bl.size
                · intro k e
                  obtain ⟨_, _, _, _, _, _, k5, _⟩ := HF2.out.tr
                  exact Nat.lt_of_lt_of_le (k5.lt k e).2 HNG.out.bl.size
                · rw [← HRK.out hlj]; exact q6
                · rw [← HRK.out hlj]; exact ho
              obtain ⟨o2, c2, rfl, hh1, hh2⟩ := Lk.HasRow.slice (HN.out.lt _ (HV.out _ HN.out.bl))
              have HL2 : Hid ((L.drop (j + 1 + j2)).length = L.length - (j + 1 + j2) ∧ L.length - (j + 1 + j2) < L.length - j) := ⟨List.length_drop, by omega⟩
              rw [HL2.out.1] at HN hh1 ⊢
              rw [HND.out] at hrun
              have y0 := hgr5.cell 0
              have y1 := hgr5.cell 1
              have y2 := hgr5.cell 2
              have y3 := hgr5.cell 3
              have y4 := hgr5.cell 4
              have y5 := hgr5.cell 5
              have y6 := hgr5.cell 6
              have y7 := hgr5.cell 7
              have y8 := hgr5.cell 8
              have y9 := hgr5.cell 9
              have y10 := hgr5.cell 10
              simp only [List.getElem?_cons_zero, List.getElem?_cons_succ] at y0 y1 y2 y3 y4 y5 y6 y7 y8 y9 y10
              clear h1 h2 h3 h4 h5 h6 h7 ho hgw hg2 q1 q2 q3 q4 q6 hgr hgr5 HF5 HF2 HSB hb5
              go_wp2_with fail
              go_roundw
              case rel => exact ⟨j + 1 + j2, ⟨o2, c2, rfl, hh2, hh1⟩, hbX6, HN⟩
              case measure => have h91 := HL2.out.2; have h92 := HNJ.out; simp [sliceLen]; omega
      · have hje : j = L.length := by have := HI.out.jl; omega
        have hz : L.length - j = 0 := by omega
        rw [hz] at HI hnc ⊢
        have HFC : Hid (∀ h : j < L.length, coversB p L[j].pf = false) := fun h => absurd h (by omega)
        haveI := bl_ne wr
        clear hz
        go_wp2_with fail
        refine wp_region_bl (by kernel_rfl) (by kernel_rfl) ?_
        repeat (go_big_quiet_step (fail))
        refine wpQuiet_nil ?_
        intro wq hw'
        obtain ⟨⟨wz, hq⟩, hw2⟩ := hw'
        subst hw2
        have HF := HI.out.below hq
        clear hq HI
        go_wp2_with fail
        go_ret2
        exact ⟨j, _, _, rfl, HF.jl, HF.lt, HF.cov, HFC.out, by rw [HT0.out]; exact HF.done, HF.bl⟩
end Go.Proofs.Ytaaedgfacnaggaa.Tr
