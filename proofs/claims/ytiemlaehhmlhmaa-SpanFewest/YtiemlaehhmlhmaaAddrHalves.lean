/- What addr.Covers and addr.Halves return. -/
import Derived.Test.YtiemlaehhmlhmaaAddrHas
import Derived.Deep.DeepCutAuto
set_option linter.unusedVariables false
namespace Go.Proofs.Ytiemlaehhmlhmaa.Addr
open Go.RowKit

set_option maxHeartbeats 2000000 in
theorem covers_any (p q : Pf) (w : World) (hl : -9223372036854775808 ≤ p.len ∧ p.len ≤ 9223372036854775807) (hn : p.n < 2 ^ 128) (hl2 : -9223372036854775808 ≤ q.len ∧ q.len ≤ 9223372036854775807) (hn2 : q.n < 2 ^ 128) : Calls Try.prog 32 #[pfV p, pfV q] w fun e w' => e = .returned (.bool (coversB p q)) ∧ Below w.heap.size w w' := by
  have cc := fun w => check_any q w hl2 hn2
  have ch := fun w => has_any p q.six q.n w hl hn hn2
  obtain ⟨X, hX⟩ : ∃ X, X = (w.alloc (.cells #[.bool p.six, .int .u64 (hiN p.n : Int), .int .u64 (loN p.n : Int), .int .i64 p.len] 27)).alloc (.cells #[.bool q.six, .int .u64 (hiN q.n : Int), .int .u64 (loN q.n : Int), .int .i64 q.len] 27) := ⟨_, rfl⟩
  have hB0 : Below w.heap.size w X := by rw [hX]; exact below_new (below_new (Below.refl _ _) _) _
  have r0 : RowAt X w.heap.size [.bool p.six, .int .u64 (hiN p.n : Int), .int .u64 (loN p.n : Int), .int .i64 p.len] 27 := by rw [hX]; exact (RowAt.new _ _ _).alloc _
  have r1 : RowAt X (w.heap.size + 1) [.bool q.six, .int .u64 (hiN q.n : Int), .int .u64 (loN q.n : Int), .int .i64 q.len] 27 := by rw [hX, ← World.size_alloc w (.cells #[.bool p.six, .int .u64 (hiN p.n : Int), .int .u64 (loN p.n : Int), .int .i64 p.len] 27)]; exact RowAt.new _ _ _
  have HH : Hid (coversB p q = (okP q && (decide (p.len ≤ q.len) && hasB p q.six q.n))) := rfl
  generalize coversB p q = R at *
  generalize hasB p q.six q.n = HB at *
  cases hok : okP q
  · rw [checkP_bad hok] at cc
    have HV : Hid (R = false) := by show _ = _; rw [HH.out, hok]; rfl
    clear HH hok ch hl hl2 hn hn2
    unfold pfV at *
    (try unfold adV at *)
    generalize hiN p.n = h at *
    generalize loN p.n = l at *
    generalize hiN q.n = qh at *
    generalize loN q.n = ql at *
    generalize p.six = sx at *
    generalize p.len = len at *
    generalize q.six = qs at *
    generalize q.len = qn at *
    go_enter Try.func32, Try.ntmps32
    go_wp2_with fail
    go_at_call 58; refine (cc _).mono ?_; rintro e w2 ⟨rfl, hb2⟩
    rw [← hX] at hb2
    have hW := below2 hB0 hb2
    clear hX cc hB0 r0 r1 hb2
    go_wp2_with fail
    go_ret
    exact ⟨by rw [HV.out]; rfl, hW⟩
  rw [checkP_ok hok] at cc
  rw [hok] at HH
  clear hok
  by_cases hs : p.len ≤ q.len
  · have HV : Hid (R = HB) := by show _ = _; rw [HH.out, decide_eq_true hs]; simp
    have hd : decide (p.len ≤ q.len) = true := decide_eq_true hs
    clear HH hl hl2 hn hn2 hs
    unfold pfV at *
    (try unfold adV at *)
    generalize hiN p.n = h at *
    generalize loN p.n = l at *
    generalize hiN q.n = qh at *
    generalize loN q.n = ql at *
    generalize p.six = sx at *
    generalize p.len = len at *
    generalize q.six = qs at *
    generalize q.len = qn at *
    go_enter Try.func32, Try.ntmps32
    go_wp2_with fail
    go_at_call 58; refine (cc _).mono ?_; rintro e w2 ⟨rfl, hb2⟩
    rw [← hX] at hb2
    have hW := below2 hB0 hb2
    obtain ⟨q0, q1, q2, q3, qf⟩ := cells4 (r0.below hb2)
    obtain ⟨p0, p1, p2, p3, pf⟩ := cells4 (r1.below hb2)
    clear hX cc hB0 r0 r1 hb2
    go_wp2_with fail
    go_at_call 62; refine (ch _).mono ?_; rintro e w3 ⟨rfl, hb3⟩
    have hW := below2 hW hb3
    clear ch
    go_wp2_with fail
    go_ret
    exact ⟨by rw [HV.out]; rfl, hW⟩
  · have HV : Hid (R = false) := by show _ = _; rw [HH.out, decide_eq_false hs]; rfl
    have hd : decide (p.len ≤ q.len) = false := decide_eq_false hs
    clear HH ch hl hl2 hn hn2 hs
    unfold pfV at *
    (try unfold adV at *)
    generalize hiN p.n = h at *
    generalize loN p.n = l at *
    generalize hiN q.n = qh at *
    generalize loN q.n = ql at *
    generalize p.six = sx at *
    generalize p.len = len at *
    generalize q.six = qs at *
    generalize q.len = qn at *
    go_enter Try.func32, Try.ntmps32
    go_wp2_with fail
    go_at_call 58; refine (cc _).mono ?_; rintro e w2 ⟨rfl, hb2⟩
    rw [← hX] at hb2
    have hW := below2 hB0 hb2
    obtain ⟨q0, q1, q2, q3, qf⟩ := cells4 (r0.below hb2)
    obtain ⟨p0, p1, p2, p3, pf⟩ := cells4 (r1.below hb2)
    clear hX cc hB0 r0 r1 hb2
    go_wp2_with fail
    go_ret
    exact ⟨by rw [HV.out]; rfl, hW⟩
theorem RowAt.set1 {W : World} {g : Nat} {cs : List Value} {t : TypeId} (h : RowAt W g cs t) (k : Nat) (v : Value) : RowAt (W.setCell ⟨g, k, none⟩ v) g (cs.set k v) t := by
  unfold RowAt at *
  simp only [World.setCell]
  rw [Array.getElem?_modify, if_pos rfl, h]
  simp
theorem RowAt.far1 {W : World} {g b : Nat} {cs : List Value} {t : TypeId} (h : RowAt W g cs t) (hne : g ≠ b) (k : Nat) (v : Value) : RowAt (W.setCell ⟨b, k, none⟩ v) g cs t := by
  unfold RowAt at *
  simp only [World.setCell]
  rw [Array.getElem?_modify, if_neg (fun e => hne e.symm)]
  exact h
theorem results_cct {fn : Func} {p q u : Tmp} {ty ty2 : TypeId} (h : fn.results = #[.cell p ty, .cell q ty2, .tmp u]) (tmps : Array Value) (P : Program) (w : World) :
    (results fn tmps).run P w =
      ((asAddr (tmps.getD p undef)).run P w).andThen fun a w₁ => ((loadVar ty a).run P w₁).andThen fun v w₂ => ((asAddr (tmps.getD q undef)).run P w₂).andThen fun b w₃ => ((loadVar ty2 b).run P w₃).andThen fun v2 w₄ => .ok (.tuple #[v, v2, tmps.getD u undef]) w₄ := by
  simp only [results, h]
  simp [Sem.run_bind, Result.andThen]
end Go.Proofs.Ytiemlaehhmlhmaa.Addr
