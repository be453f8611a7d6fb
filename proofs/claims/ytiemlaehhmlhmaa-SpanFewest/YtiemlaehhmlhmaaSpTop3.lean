/- What span.Not returns. -/
import Derived.Test.YtiemlaehhmlhmaaSpTop
import Derived.Deep.RegionHeld3
import Derived.Deep.DeepCutAuto
set_option linter.unusedVariables false
namespace Go.Proofs.Ytiemlaehhmlhmaa.Sp
open Go.RowKit Go.Shelf
open Go.Proofs.Ytiemlaehhmlhmaa.Lk (HasRow hasRow_own addr_add)
open Go.Proofs.Ytiemlaehhmlhmaa.Addr (Pf pfV okP lastN lastE last_any wideN rightB hiN loN adV cmpN RowAt below2 below_drew below_new bset RowAt.lt RowAt.cell RowAt.frozen RowAt.below RowAt.drew RowAt.new RowAt.alloc cells2 cells4 results_cell gset grefl)
/-- a span of all addresses, beside a row that was made -/
def NC (X W : World) (g : Nat) (u : Value) (l : List Sp) (six : Bool) : Prop := Below X.heap.size X W ∧ SixAt W g six ∧ HasSps W u l
theorem told_ans2 {six : Bool} {w w1 : World} {bad : Int} {m : Nat → Bool} {bound : Nat} {u : Value} {R : List Sp} (hb : Below w.heap.size w w1) (hu : HasSps w1 u R) (h1 : Row six R) (h2 : ∀ x, inB R x = m x) (h4 : R.length ≤ bound) : Calls Try.prog 37 #[u] w1 fun e w' => (∃ v, ∃ why : Int, e = .returned (.tuple #[v, .int .i64 why])) ∧ Below w1.heap.size w1 w' ∧ AnsIs six w true bad m bound e w' := by
  by_cases hl : R.length ≤ 1024
  · refine (toldF_any R u w1 hu hl).mono ?_
    rintro e w2 ⟨v, rfl, hO⟩
    exact ⟨⟨_, _, rfl⟩, hO.bl, ans_ok (hO.to hb) h1 h2 hl h4⟩
  · refine (toldB_any R u w1 hu (by omega)).mono ?_
    rintro e w2 ⟨rfl, rfl⟩
    exact ⟨⟨_, _, rfl⟩, Below.refl _ _, ans_long hb h1 h2 (by omega) h4⟩
theorem six_drew {W : World} {g : Nat} {six : Bool} (h : SixAt W g six) : SixAt W.drew g six := h
theorem sps_drew {W : World} {v : Value} {l : List Sp} (h : HasSps W v l) : HasSps W.drew v l := h
theorem whole_of (six : Bool) : okP ⟨six, 0, 0⟩ = true ∧ lastN ⟨six, 0, 0⟩ = topN six := by
  constructor
  · rw [Addr.okP_iff]
    refine ⟨⟨by simp, by simp⟩, ?_, ?_⟩
    · exact Nat.two_pow_pos _
    · simp
  · unfold lastN Addr.freeN Addr.kP topN
    simp
set_option maxHeartbeats 4000000 in
set_option maxRecDepth 20000 in
theorem not_any (six : Bool) (l : List Sp) (v : Value) (w : World) (h : HasSps w v l) (hf : ∀ s ∈ l, FitS s) :
    Calls Try.prog 22 #[.bool six, v] w (AnsIs six w (okB six l) 2 (fun x => decide (x ≤ topN six) && !inB l x) (l.length + 1)) := by
  obtain ⟨o, c, rfl, hc1, hc2⟩ := HasRow.slice h
  have cc := check_any six l _ w h hf
  cases hok : okB six l
  · rw [hok] at cc
    generalize l.length = n at *
    unfold chk at cc
    simp only [Bool.false_eq_true, if_false] at cc
    clear h hf hok
    go_enter Try.func22, Try.ntmps22
    go_wp2_with fail
    go_at_call 16; refine cc.mono ?_; rintro e w2 ⟨rfl, hb2⟩
    go_wp2_with fail
    go_ret2
    exact ans_bad hb2
  · rw [hok] at cc
    have okl := okB_iff.1 hok
    have co := fun W => of_any ⟨six, 0, 0⟩ W (by simp) (show (0 : Nat) < 2 ^ 128 by decide)
    rw [if_pos (whole_of six).1, (whole_of six).1, (whole_of six).2] at co
    have cg := addresses_any six
    have crun := fun (W : World) (hq : HasSps W (.slice o l.length c) l) => runs_any l (.slice o l.length c) W hq (by omega)
    have cnot := fun (W : World) (u : Value) (g : Nat) (hq : HasSps W u l) (hg : SixAt W g six) => notF_any six l u g W hq okl.2 hg (by omega)
    have HK : Hid (∀ W, Below w.heap.size w W → HasSps W (.slice o l.length c) l) := fun W hq => h.keep hq
    have hz : pfV ⟨six, 0, 0⟩ = .agg #[.bool six, .int .u64 0, .int .u64 0, .int .i64 0] := by
      have e1 : hiN 0 = 0 := by unfold hiN; exact Nat.zero_div _
      have e2 : loN 0 = 0 := by unfold loN; exact Nat.zero_mod _
      show Value.agg #[.bool six, .int .u64 (hiN 0 : Int), .int .u64 (loN 0 : Int), .int .i64 0] = _
      rw [e1, e2]; rfl
    have hs : spV (0, topN six) = .agg #[.int .u64 0, .int .u64 0, .int .u64 (hiN (topN six) : Int), .int .u64 (loN (topN six) : Int)] := by
      have e1 : hiN 0 = 0 := by unfold hiN; exact Nat.zero_div _
      have e2 : loN 0 = 0 := by unfold loN; exact Nat.zero_mod _
      show Value.agg #[.int .u64 (hiN 0 : Int), .int .u64 (loN 0 : Int), .int .u64 (hiN (topN six) : Int), .int .u64 (loN (topN six) : Int)] = _
      rw [e1, e2]; rfl
    rw [hz] at co
    rw [hs] at co cnot
    unfold fdV f0 f1 f2 f3 at cnot
    unfold fdV f0 f1 f2 f3 at cg
    unfold chk at cc co
    simp only [if_true] at cc co
    clear h hf hok okl hz hs
    generalize hiN (topN six) = t1 at *
    generalize loN (topN six) = t2 at *
    obtain ⟨n, hn⟩ : ∃ n, n = l.length := ⟨_, rfl⟩
    rw [← hn] at hc1 HK crun cnot cc ⊢
    clear hn
    go_enter Try.func22, Try.ntmps22
    go_wp2_with fail
    go_at_call 16; refine cc.mono ?_; rintro e w2 ⟨rfl, hb2⟩
    clear cc
    go_wp2_with fail
    go_at_call 13; refine (co _).mono ?_; rintro e w3 ⟨rfl, hb3⟩
    have hb := below2 hb2 hb3
    clear co hb2 hb3
    obtain ⟨X, hX⟩ : ∃ X, X = w3.alloc (.cells #[.int .u64 0, .int .u64 0, .int .u64 (t1 : Int), .int .u64 (t2 : Int)] 34) := ⟨_, rfl⟩
    have hbX : Below w3.heap.size w3 X := by rw [hX]; exact below_new (Below.refl _ _) _
    have rx : RowAt X w3.heap.size [.int .u64 0, .int .u64 0, .int .u64 (t1 : Int), .int .u64 (t2 : Int)] 34 := by rw [hX]; exact RowAt.new _ _ _
    have hW := below2 hb hbX
    obtain ⟨gx, hgx⟩ : ∃ q, q = w3.heap.size := ⟨_, rfl⟩
    go_upto_region 7 with fail
    rw [← hX, ← hgx]
    rw [← hgx] at rx
    clear hX hgx hb hbX
    have HSK : Hid (∀ W : World, Below X.heap.size X W → W.cell? ⟨gx, 0, none⟩ = some (.int .u64 0) ∧ W.cell? ⟨gx, 1, none⟩ = some (.int .u64 0) ∧ W.cell? ⟨gx, 2, none⟩ = some (.int .u64 (t1 : Int)) ∧ W.cell? ⟨gx, 3, none⟩ = some (.int .u64 (t2 : Int))) := fun W hq => by
      obtain ⟨c0, c1, c2, c3, _⟩ := cells4 (rx.below hq)
      exact ⟨c0, c1, c2, c3⟩
    have HHK : Hid (∀ W, Below X.heap.size X W → HasSps W (.slice o n c) l) := fun W hq => HK.out _ (below2 hW hq)
    have HTA : Hid (∀ (W : World) (u : Value) (R : List Sp), Below X.heap.size X W → HasSps W u R → Row six R → (∀ x, inB R x = (decide (x ≤ topN six) && !inB l x)) → R.length ≤ n + 1 → Calls Try.prog 37 #[u] W fun e w' => (∃ v, ∃ why : Int, e = .returned (.tuple #[v, .int .i64 why])) ∧ Below W.heap.size W w' ∧ AnsIs six w true 2 (fun x => decide (x ≤ topN six) && !inB l x) (n + 1) e w') := fun W u R hq h1 h2 h3 h4 => told_ans2 (below2 hW hq) h1 h2 h3 h4
    clear rx HK hW
    have hbA : Below X.heap.size X X := Below.refl _ _
    go_region_held3 (fun w' => w'.cell? ⟨gx, 0, none⟩ = some (.int .u64 0) ∧ w'.cell? ⟨gx, 1, none⟩ = some (.int .u64 0) ∧ w'.cell? ⟨gx, 2, none⟩ = some (.int .u64 (t1 : Int)) ∧ w'.cell? ⟨gx, 3, none⟩ = some (.int .u64 (t2 : Int)))
      (first
        | (refine HSK.out _ ?_
           repeat' (first | with_reducible exact hbA | with_reducible apply below_drew)))
      (first
        | (go_at_call 34
           refine (cg _).mono ?_
           rintro e w4 ⟨g, rfl, hg, -, hb4⟩
           have hbN : Below X.heap.size X w4 := below2 (by repeat' (first | with_reducible exact hbA | with_reducible apply below_drew)) hb4
           clear hbA
           have hbA := hbN
           clear hbN hb4)
        | (go_at_call 35
           refine (crun _ (HHK.out _ (by repeat' (first | with_reducible exact hbA | with_reducible apply below_drew)))).mono ?_
           rintro e w5 ⟨u, rfl, hO5⟩
           have hb5 := hO5.bl
           have hu := hO5.has
           have hg2 := SixAt.keep (by first | with_reducible exact hg | exact six_drew hg) hb5
           have hbN : Below X.heap.size X w5 := below2 (by repeat' (first | with_reducible exact hbA | with_reducible apply below_drew)) hb5
           clear hbA hg
           have hbA := hbN
           have hg := hg2
           clear hbN hb5 hO5 hg2)
        | (go_at_call 49
           refine (cnot _ _ _ (by first | with_reducible exact hu | exact sps_drew hu) (by first | with_reducible exact hg | exact six_drew hg)).mono ?_
           rintro e w6 ⟨v6, R, rfl, hO6, hR1, hR2, hR3⟩
           have hb6 := hO6.bl
           have hv6 := hO6.has
           have hbN : Below X.heap.size X w6 := below2 (by repeat' (first | with_reducible exact hbA | with_reducible apply below_drew)) hb6
           clear hbA hg hu
           have hbA := hbN
           clear hbN hb6 hO6)
        | (go_at_call 37
           refine (HTA.out _ _ R (by repeat' (first | with_reducible exact hbA | with_reducible apply below_drew)) (by first | with_reducible exact hv6 | exact sps_drew hv6) hR1 hR2 hR3).mono ?_
           rintro e w7 ⟨⟨v7, why, rfl⟩, hb7, hA⟩
           have hbN : Below X.heap.size X w7 := below2 (by repeat' (first | with_reducible exact hbA | with_reducible apply below_drew)) hb7
           have HA : Hid (AnsIs six w true 2 (fun x => decide (x ≤ topN six) && !inB l x) (n + 1) (.returned (.tuple #[v7, .int .i64 why])) w7) := hA
           clear hA hR1 hR2 hR3 hv6 hbA hb7
           have hbA := hbN
           clear hbN))
    all_goals go_wp2_with fail
    all_goals go_ret2
    all_goals exact HA.out
end Go.Proofs.Ytiemlaehhmlhmaa.Sp
