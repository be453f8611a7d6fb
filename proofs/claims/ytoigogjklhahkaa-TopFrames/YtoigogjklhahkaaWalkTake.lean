/- What frame.Take returns, for every text and every number. -/
import Derived.Test.YtoigogjklhahkaaWalkAll
set_option linter.unusedVariables false
namespace Go.Proofs.Ytoigogjklhahkaa.Frame
open Go.RowKit Go.Shelf
attribute [local go_sem] Oper.semAt_some
attribute [-go_sem] Builtin.append_

theorem TOk.take {ps : List T3} : ∀ {s cur : List UInt8}, TOk s ps cur → ∀ j, takeL (ps.length + j) s = (if (takeL j cur).2.2 = 0 then (ps.map (·.1) ++ (takeL j cur).1, (takeL j cur).2.1, 0) else ([], [], (takeL j cur).2.2)) := by
  induction ps with
  | nil =>
    intro s cur hh j
    have e : cur = s := hh
    subst e
    simp only [List.length_nil, Nat.zero_add, List.map_nil, List.nil_append]
    split
    · rename_i h; rw [← h]
    · rename_i h
      cases j with
      | zero => exact absurd rfl h
      | succ j =>
        rw [takeL] at h ⊢
        split
        · rename_i h1
          rw [if_pos h1] at h
          split
          · rename_i h2; rw [if_pos h2] at h; exact absurd rfl h
          · rfl
        · rfl
  | cons x ps ih =>
    intro s cur hh j
    rw [List.length_cons, Nat.add_right_comm, takeL, hh.1]
    simp only [if_true]
    rw [ih hh.2.2 j]
    by_cases h0 : (takeL j cur).2.2 = 0
    · simp only [if_pos h0, if_true, List.map_cons, List.cons_append]
    · simp only [if_neg h0]
theorem TOk.taken {s : List UInt8} {ps : List T3} {cur : List UInt8} (h : TOk s ps cur) : takeL ps.length s = (ps.map (·.1), cur, 0) := by
  have := h.take 0
  simpa [takeL] using this
theorem TOk.fails {s : List UInt8} {ps : List T3} {cur : List UInt8} (h : TOk s ps cur) (hb : (nextL cur).2.2 ≠ 0) {n : Nat} (hn : ps.length < n) : takeL n s = ([], [], (nextL cur).2.2) := by
  obtain ⟨j, rfl⟩ : ∃ j, n = ps.length + (j + 1) := ⟨n - ps.length - 1, by omega⟩
  have e : takeL (j + 1) cur = ([], [], (nextL cur).2.2) := by rw [takeL, if_neg hb]
  rw [h.take (j + 1), e]
  exact if_neg hb
theorem own_form {W : World} {m e size k : Nat} {v : Value} {xs : List Value} (h : W.ownsRow m e size v k xs) : ∃ o cap, v = .slice o k cap := by
  rcases h.2 with ⟨rfl, rfl⟩ | ⟨g, cap, cur, rfl, _⟩
  · exact ⟨none, 0, rfl⟩
  · exact ⟨_, cap, rfl⟩

theorem boxed_at (W : World) (t : TypeId) (v : Value) {k : Nat} (h : W.heap.size = k) : Boxed (W.alloc (.cells #[v] t)) k t v := by subst h; exact Boxed.new W t v
def TakeIs (w : World) (r : List (List UInt8) × List UInt8 × Int) (e : Ending) (w' : World) : Prop :=
  ∃ v, e = .returned (.tuple #[v, .string ⟨r.2.1.toArray⟩, .int .i64 r.2.2]) ∧ w'.ownsRow w.heap.size 9 1 v r.1.length (r.1.map strV) ∧ Below w.heap.size w w'
theorem results_cells3 {fn : Func} {a b c : Tmp} {t u s : TypeId} (h : fn.results = #[.cell a t, .cell b u, .cell c s]) {tmps : Array Value} {P : Program} {w : World} {A B C : Addr} {x y z : Value}
    (ha : tmps.getD a undef = .pointer (some A)) (hb : tmps.getD b undef = .pointer (some B)) (hc : tmps.getD c undef = .pointer (some C))
    (hx : (loadVar t A).run P w = .ok x w) (hy : (loadVar u B).run P w = .ok y w) (hz : (loadVar s C).run P w = .ok z w) :
    (results fn tmps).run P w = .ok (.tuple #[x, y, z]) w := by
  simp only [results, h]
  simp only [Array.getD_eq_getD_getElem?] at ha hb hc
  simp [Sem.run_bind, Result.andThen, ha, hb, hc, asAddr, hx, hy, hz]
/-- the other boxes of Take -/
def Rest4 (b : Nat) (many : Int) (l : List UInt8) (w : World) (pre : List Told) (W : World) : Prop :=
  Gath l b (b + 1 + 1 + 1 + 1 + 1 + 1 + 1) (b + 1 + 1 + 1 + 1) (b + 1 + 1 + 1 + 1 + 1) w pre W ∧ Boxed W b 3 (.int .i64 many) ∧ Boxed W (b + 1) 22 (.slice none 0 0) ∧ Boxed W (b + 1 + 1) 9 (.string ⟨#[]⟩) ∧ Boxed W (b + 1 + 1 + 1) 25 (.int .i64 0) ∧ (pre.length : Int) ≤ many
theorem rest4_own (b : Nat) (many : Int) (l : List UInt8) (w : World) (B : Nat) (hn : b ≤ w.heap.size) (hB : b ≤ B) : OwnFrom B (Rest4 b many l w) :=
  OwnFrom.and (gath_own l _ _ _ _ B w hn hB) (OwnFrom.and (Own.from (boxed_own b 3 (fun _ => .int .i64 many)) B) (OwnFrom.and (Own.from (boxed_own _ 22 (fun _ => .slice none 0 0)) B) (OwnFrom.and (Own.from (boxed_own _ 9 (fun _ => .string ⟨#[]⟩)) B) (OwnFrom.and (Own.from (boxed_own _ 25 (fun _ => .int .i64 0)) B) (ownFrom_pure B (fun pre : List Told => (pre.length : Int) ≤ many))))))
/-- how Take leaves its loop -/
def Left4 (b : Nat) (many : Int) (l : List UInt8) (w : World) (c : Code) (pre : List Told) (W : World) : Prop :=
  ∃ pre' x, pre = pre' ++ [x] ∧ ((c = .exit 0 ∧ (pre'.length : Int) = many ∧ Rest4 b many l w pre' W) ∨
    (c = .ret ∧ (pre'.length : Int) < many ∧ x.1.2.2 ≠ 0 ∧ (∀ z ∈ pre', z.1.2.2 = 0) ∧ Boxed W (b + 1) 22 (.slice none 0 0) ∧ Boxed W (b + 1 + 1) 9 (.string ⟨#[]⟩) ∧ Boxed W (b + 1 + 1 + 1) 25 (.int .i64 x.1.2.2) ∧ Below b w W))
theorem left4_own (b : Nat) (many : Int) (l : List UInt8) (w : World) (B : Nat) (hn : b ≤ w.heap.size) (hB : b ≤ B) (c : Code) : OwnFrom B (Left4 b many l w c) := by
  rintro s A A' row ⟨pre', x, e, h⟩ hg hr
  refine ⟨pre', x, e, ?_⟩
  rcases h with ⟨h1, h2, h3⟩ | ⟨h1, h2, h3, h4, h5, h6, h7, h8⟩
  · exact .inl ⟨h1, h2, rest4_own b many l w B hn hB pre' A A' row h3 hg hr⟩
  · refine .inr ⟨h1, h2, h3, h4, ?_, ?_, ?_, ?_⟩
    · exact Own.from (boxed_own (β := Unit) _ _ (fun _ => .slice none 0 0)) B () A A' row h5 hg hr
    · exact Own.from (boxed_own (β := Unit) _ _ (fun _ => .string ⟨#[]⟩)) B () A A' row h6 hg hr
    · exact Own.from (boxed_own (β := Unit) _ _ (fun _ => .int .i64 x.1.2.2)) B () A A' row h7 hg hr
    · exact ownFrom_below (β := Unit) hn hB () A A' row h8 hg hr

end Go.Proofs.Ytoigogjklhahkaa.Frame
