/- slices.SortedFunc of runs; a run that is put into a row of the call's own. -/
import Derived.Test.YtmkbijnndbgjgaaSpSort
set_option linter.unusedVariables false
namespace Go.Proofs.Ytmkbijnndbgjgaa.Sp
open Go.RowKit Go.Shelf Go.Lib Go.Sort
open Go.Proofs.Ytmkbijnndbgjgaa.Lk (HasRow hasRow_own addr_add)
open Go.Proofs.Ytmkbijnndbgjgaa.Addr (wideN rightB hiN loN adV cmpN RowAt below2 below_drew below_new bset RowAt.lt RowAt.cell RowAt.frozen RowAt.below RowAt.drew RowAt.new RowAt.alloc cells2 cells4)
theorem sortedF_any (l : List Sp) (v : Value) (Bn gf g : Nat) (w : World) (hv : HasSps w v l) (hf : ∀ x ∈ l, FitS x) (hb : w.cell? ⟨Bn, 0, none⟩ = some v) (hBl : Bn < w.heap.size) (hl : l.length ≤ 1000000) (hr : RowAt w gf (fieldRow g) 123) :
    Calls Try.prog 94 #[.func (.func 112) #[] #[.pointer (some ⟨Bn, 0, none⟩)], .func (.func 96) #[] #[.pointer (some ⟨gf, 0, none⟩)]] w fun e w' => ∃ u d, e = .returned u ∧ Own1 w w' 130 u d ∧ Ris d ∧ d.length = l.length ∧ (∀ z, z ∈ d ↔ z ∈ l) := by
  have cc := collect_any l v Bn w hv hb hBl hl
  have hlt := hr.lt
  clear hv hb hBl
  go_enter Try.func94, Try.ntmps94
  go_wp2_with fail
  go_at_call 110; refine cc.mono ?_; rintro e w2 ⟨u, rfl, hO⟩
  have hr2 := hr.below hO.bl
  have hou := hO.ou.2
  rcases hou with ⟨rfl, h0⟩ | ⟨gr, cap, cur, rfl, hgB, hgb, hnc, hcm, hrest⟩
  · have hl0 : l = [] := List.eq_nil_of_length_eq_zero h0
    subst hl0
    have hs := AnyF.slices_SortFunc_none Try.sortF none 0 (.func (.func 96) #[] #[.pointer (some ⟨gf, 0, none⟩)]) w2
    have H : Hid (Own1 w w2 130 (.slice none 0 0) []) := hO
    clear hO hr hr2 cc hf
    go_wp2_with fail
    go_at_call 111; refine hs.mono ?_; rintro e w3 ⟨rfl, rfl⟩
    go_wp2_with fail
    go_ret
    exact ⟨_, [], rfl, H.out, List.Pairwise.nil, rfl, fun z => Iff.rfl⟩
  · have hs := sort_any l gr cap l.length w.heap.size gf g w2 rfl hl hf hO.ou hgB hO.bl.size hr2 (by omega)
    have HB : Hid (Below w.heap.size w w2) := hO.bl
    have HL : Hid (w.heap.size ≤ gr) := hgB
    generalize hn : l.length = n at *
    have HN : Hid (l.length = n) := hn
    clear hn
    clear hO hr hr2 cc hf hgb hrest
    go_wp2_with fail
    go_at_call 111; refine hs.mono ?_; rintro e w3 ⟨rfl, d, h1, h2, h3, h4, h5⟩
    have H : Hid (Own1 w w3 130 (.slice (some ⟨gr, 0, none⟩) n cap) d) := ⟨by rw [h2]; exact h4, HB.out.grown h5 HB.out.size (fun k e => by injection e with e; have := HL.out; omega)⟩
    have H1 : Hid (Ris d ∧ d.length = n ∧ (∀ z, z ∈ d ↔ z ∈ l)) := ⟨h1, h2, h3⟩
    clear h1 h2 h3 h4 h5 hs HB HL
    go_wp2_with fail
    go_ret
    exact ⟨_, d, rfl, H.out, H1.out.1, H1.out.2.1.trans HN.out.symm, H1.out.2.2⟩
end Go.Proofs.Ytmkbijnndbgjgaa.Sp
