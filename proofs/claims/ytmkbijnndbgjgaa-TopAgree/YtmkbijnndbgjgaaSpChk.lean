/- What span.Check, checkAll and Of return. -/
import Derived.Test.YtmkbijnndbgjgaaSpRow
import Derived.Test.YtmkbijnndbgjgaaSpConc
import Derived.Test.YtmkbijnndbgjgaaSpNotF
import Derived.Test.YtmkbijnndbgjgaaSpAndF
set_option linter.unusedVariables false
namespace Go.Proofs.Ytmkbijnndbgjgaa.Sp
open Go.RowKit Go.Shelf
open Go.Proofs.Ytmkbijnndbgjgaa.Lk (HasRow hasRow_own addr_add)
open Go.Proofs.Ytmkbijnndbgjgaa.Addr (Pf pfV okP lastN lastE wideN rightB hiN loN adV cmpN RowAt below2 below_drew below_new bset RowAt.lt RowAt.cell RowAt.frozen RowAt.below RowAt.drew RowAt.new RowAt.alloc cells2 cells4 results_cell gset grefl)
def okB (six : Bool) (l : List Sp) : Bool := decide (l.length ≤ 1024) && rowB six l
def chk (b : Bool) : Int := if b then 0 else 2
theorem okB_iff {six : Bool} {l : List Sp} : okB six l = true ↔ l.length ≤ 1024 ∧ Row six l := by
  unfold okB; rw [Bool.and_eq_true, decide_eq_true_iff, rowB_iff]
set_option maxHeartbeats 2000000 in
theorem check_any (six : Bool) (l : List Sp) (v : Value) (w : World) (h : HasSps w v l) (hf : ∀ s ∈ l, FitS s) :
    Calls Try.prog 68 #[.bool six, v] w fun e w' => e = .returned (.int .i64 (chk (okB six l))) ∧ Below w.heap.size w w' := by
  obtain ⟨o, c, rfl, hc1, hc2⟩ := HasRow.slice h
  by_cases hlen : 1024 < l.length
  · have HV : Hid (chk (okB six l) = 2) := by show _ = _; unfold okB; rw [decide_eq_false (by omega)]; rfl
    have hq1 : decide ((1024 : Int) < (l.length : Int)) = true := decide_eq_true (by omega)
    have hq2 : decide (1024 < l.length) = true := decide_eq_true hlen
    generalize chk (okB six l) = R at *
    generalize l.length = n at *
    clear h hf
    go_enter Try.func68, Try.ntmps68
    go_wp2_with fail
    go_ret
    exact ⟨by rw [HV.out]; rfl, Below.refl _ _⟩
  · have cg := addresses_any six w
    have HR : Hid (∀ wr : World, Below w.heap.size w wr → HasSps wr (.slice o l.length c) l) := fun wr hq => h.keep hq
    have HF : Hid (∀ s ∈ l, FitS s) := hf
    have HC : Hid (∀ b, rowB six l = b → chk (okB six l) = chk b) := fun b hb => by unfold okB; rw [decide_eq_true (by omega), hb]; rfl
    have crun := fun (W : World) (hq : HasSps W (.slice o l.length c) l) => runs_any l (.slice o l.length c) W hq (by omega)
    have crow := fun (W : World) (u : Value) (g : Nat) (hq : HasSps W u l) (hg : SixAt W g six) => rowF_any six l u g W hq hf hg
    have hq1 : decide ((1024 : Int) < (l.length : Int)) = false := decide_eq_false (by omega)
    have hq2 : decide (1024 < l.length) = false := decide_eq_false hlen
    generalize chk (okB six l) = R at *
    generalize rowB six l = B at *
    generalize l.length = n at *
    clear h hf hlen
    go_enter Try.func68, Try.ntmps68
    go_wp2_with fail
    go_at_call 71; refine cg.mono ?_; rintro e w1 ⟨g, rfl, hg, -, hb1⟩
    have hh := HR.out _ hb1
    go_wp2_with fail
    go_at_call 73; refine (crun _ hh).mono ?_; rintro e w2 ⟨u, rfl, hO⟩
    replace hg := hg.keep hO.bl
    have hb2 := below2 hb1 hO.bl
    have hu := hO.has
    clear hO hh crun hb1
    unfold fdV f0 f1 f2 f3 at crow
    unfold fdV f0 f1 f2 f3
    go_wp2_with fail
    go_at_call 86; refine (crow _ _ _ hu hg).mono ?_; rintro e w3 ⟨rfl, hb⟩
    replace hb2 := below2 hb2 hb
    clear hu hg hb crow
    cases B
    · have HV : Hid (R = 2) := HC.out false rfl
      clear HC
      go_wp2_with fail
      go_ret
      exact ⟨by rw [HV.out]; rfl, hb2⟩
    · have HV : Hid (R = 0) := HC.out true rfl
      clear HC
      go_wp2_with fail
      go_ret
      exact ⟨by rw [HV.out]; rfl, hb2⟩
set_option maxHeartbeats 4000000 in
set_option maxRecDepth 20000 in
theorem checkAll2_any (six : Bool) (b : Nat) (la lb : List Sp) (va vb : Value) (w : World) (hb : b < w.heap.size) (h0 : w.cell? ⟨b, 0, none⟩ = some va) (h1 : w.cell? ⟨b, 1, none⟩ = some vb)
    (ha : HasSps w va la) (hbb : HasSps w vb lb) (hfa : ∀ s ∈ la, FitS s) (hfb : ∀ s ∈ lb, FitS s) :
    Calls Try.prog 69 #[.bool six, .slice (some ⟨b, 0, none⟩) 2 2] w fun e w' => e = .returned (.int .i64 (chk (okB six la && okB six lb))) ∧ Below w.heap.size w w' := by
  have ca := fun (W : World) (hq : Below w.heap.size w W) => check_any six la va W (ha.keep hq) hfa
  have cb := fun (W : World) (hq : Below w.heap.size w W) => check_any six lb vb W (hbb.keep hq) hfb
  obtain ⟨oa, cpa, rfl, _, _⟩ := HasRow.slice ha
  obtain ⟨ob, cpb, rfl, _, _⟩ := HasRow.slice hbb
  have HA : Hid (∀ A B, okB six la = A → okB six lb = B → chk (okB six la && okB six lb) = chk (A && B)) := fun A B h1 h2 => by rw [h1, h2]
  generalize chk (okB six la && okB six lb) = R at *
  generalize okB six la = A at *
  generalize okB six lb = B at *
  generalize la.length = na at *
  generalize lb.length = nb at *
  clear ha hbb hfa hfb
  go_enter Try.func69, Try.ntmps69
  go_wp2_with fail
  refine wp_loop_rounds 3 ?_
  rw [rounds_succ]
  go_wp2_with fail
  go_at_call 68; refine (ca _ (by first | exact Below.refl _ _ | exact below_drew (Below.refl _ _))).mono ?_; rintro e w1 ⟨rfl, hb1⟩
  have hw1 : Below w.heap.size w w1 := hb1
  have y1 := (hb1.cell (p := ⟨b, 1, none⟩) hb).trans h1
  clear ca
  cases A
  · have HV : Hid (R = 2) := HA.out false B rfl rfl
    clear HA
    unfold chk
    go_wp2_with fail
    go_ret
    exact ⟨by rw [HV.out]; rfl, hw1⟩
  · unfold chk
    simp only [if_true]
    go_wp2_with fail
    rw [rounds_succ]
    go_wp2_with fail
    go_at_call 68; refine (cb _ hw1).mono ?_; rintro e w2 ⟨rfl, hb2⟩
    have hw2 := below2 hw1 hb2
    cases B
    · have HV : Hid (R = 2) := HA.out true false rfl rfl
      clear HA
      unfold chk
      go_wp2_with fail
      go_ret
      exact ⟨by rw [HV.out]; rfl, hw2⟩
    · have HV : Hid (R = 0) := HA.out true true rfl rfl
      clear HA
      unfold chk
      simp only [if_true]
      go_wp2_with fail
      rw [rounds_succ]
      go_wp2_with fail
      go_ret
      exact ⟨by rw [HV.out]; rfl, hw2⟩
end Go.Proofs.Ytmkbijnndbgjgaa.Sp
