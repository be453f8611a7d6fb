/- What page.Join and the document's return, for every row of texts. -/
import Derived.Test.YtbikcpchlgmoaaaPageSplit
import Derived.Test.YtbikcpchlgmoaaaWalkBuilder
set_option linter.unusedVariables false
namespace Go.Proofs.Ytbikcpchlgmoaaa.Page
open Go.RowKit Go.Shelf

/-- a row of texts in memory -/
def HasStrs (W : World) (v : Value) (zs : List (List UInt8)) : Prop :=
  ∃ o cap, v = .slice o zs.length cap ∧ ∀ j (hj : j < zs.length), ∃ b i, o = some ⟨b, i, none⟩ ∧ W.cell? ⟨b, i + j, none⟩ = some (strV zs[j]) ∧ b < W.heap.size
theorem has_own {W : World} {B : Nat} {v : Value} {zs : List (List UInt8)} (h : W.ownsRow B 9 1 v zs.length (zs.map strV)) : HasStrs W v zs := by
  rcases h.2 with ⟨rfl, h0⟩ | ⟨g, cap, cur, rfl, hg, hgb, _, _, hsz, htk⟩
  · exact ⟨none, 0, by rw [h0], fun j hj => by omega⟩
  · refine ⟨_, cap, rfl, fun j hj => ⟨g, 0, rfl, ?_, (Array.getElem?_eq_some_iff.1 hgb).1⟩⟩
    rw [Nat.mul_one] at htk hsz
    simp only [World.cell?, hgb]
    rw [if_neg (by simp), Nat.zero_add]
    have := congrArg (fun x => x[j]?) htk
    simp only [List.getElem?_take, if_pos hj, List.getElem?_map, List.getElem?_eq_getElem hj, Option.map_some] at this
    simpa using this
theorem HasStrs.keep {W W' : World} {v : Value} {zs : List (List UInt8)} (h : HasStrs W v zs) (hb : Below W.heap.size W W') : HasStrs W' v zs := by
  obtain ⟨o, cap, e, g⟩ := h
  refine ⟨o, cap, e, fun j hj => ?_⟩
  obtain ⟨b, i, e1, e2, e3⟩ := g j hj
  exact ⟨b, i, e1, (hb.cell (p := ⟨b, i + j, none⟩) e3).trans e2, Nat.lt_of_lt_of_le e3 hb.size⟩

def two64 : Nat := 18446744073709551616
/-- what Join answers -/
def joinL : List (List UInt8) → Nat → List UInt8 × Nat
  | [], _ => ([], 0)
  | s :: r, t => if (getL s t).2 = 0 then ((getL s t).1 ++ (joinL r ((t + 1) % two64)).1, (joinL r ((t + 1) % two64)).2 + 1) else ([], 0)
theorem joinL_bad {s : List UInt8} {r : List (List UInt8)} {t : Nat} (h : (getL s t).2 ≠ 0) : joinL (s :: r) t = ([], 0) := by rw [joinL, if_neg h]
theorem joinL_ok {s d : List UInt8} {r : List (List UInt8)} {t : Nat} (h : getL s t = (d, 0)) : joinL (s :: r) t = (d ++ (joinL r ((t + 1) % two64)).1, (joinL r ((t + 1) % two64)).2 + 1) := by
  rw [joinL, h]; rfl
theorem next_tag (t k : Nat) : ((t + k) % two64 + 1) % two64 = (t + (k + 1)) % two64 := by unfold two64; omega
theorem wrap_tag (t k : Nat) : IntKind.u64.wrap ((t : Int) + (k : Int)) = (((t + k) % two64 : Nat) : Int) := by
  rw [IntKind.wrap_u64]; unfold two64; omega
theorem tag_lt (t k : Nat) : (t + k) % two64 < 18446744073709551616 := by unfold two64; omega
theorem strCells_eq (l : List UInt8) : Lib.strCells ⟨l.toArray⟩ = Lib.byteCells l := by simp [Lib.strCells, Lib.byteCells]
theorem byteCells_app (a b : List UInt8) : Lib.byteCells a ++ Lib.byteCells b = Lib.byteCells (a ++ b) := by simp [Lib.byteCells]
theorem isb_new (w : World) : Lib.IsBuilder 110 5 w.heap.size w.heap.size [] (w.alloc (.cells #[.pointer none, .slice none 0 0] 110)) :=
  .inl ⟨Nat.le_refl _, .slice none 0 0, World.alloc_heap_new w _, World.ownsRow_nil _ _ _ _, by simp [Value.ownBlock]⟩
theorem ret_join {a b : List UInt8} {n m : Int} (h : a = b) (h2 : n = m) : Ending.returned (.tuple #[.string ⟨a.toArray⟩, .int .i64 n]) = .returned (.tuple #[.string ⟨b.toArray⟩, .int .i64 m]) := by rw [h, h2]
set_option maxHeartbeats 2000000 in
theorem join_any (v : Value) (zs : List (List UInt8)) (t : Nat) (w : World) (h : HasStrs w v zs) (ht : t < 18446744073709551616) (hz : zs.length ≤ 9223372036854775807) (hzl : ∀ z ∈ zs, z.length ≤ 9223372036854775807) (hsum : (joinL zs t).1.length ≤ 140737488355328) :
    Calls Try.prog 72 #[v, .int .u64 (t : Int)] w fun e w' => e = .returned (.tuple #[.string ⟨(joinL zs t).1.toArray⟩, .int .i64 ((joinL zs t).2 : Int)]) ∧ Below w.heap.size w w' := by
  obtain ⟨o, cap, rfl, g⟩ := h
  obtain ⟨n, hn⟩ : ∃ n, n = zs.length := ⟨_, rfl⟩
  have HN : Hid (n = zs.length ∧ ∀ z ∈ zs, z.length ≤ 9223372036854775807) := ⟨hn, hzl⟩
  have HSm : Hid ((joinL zs t).1.length ≤ 140737488355328) := hsum
  have HT : Hid (t < 18446744073709551616) := ht
  have hnz : n ≤ 9223372036854775807 := by omega
  rw [← hn]
  clear hn hzl hz hsum
  have HG : Hid (∀ j (hj : j < zs.length), ∃ b i, o = some ⟨b, i, none⟩ ∧ w.cell? ⟨b, i + j, none⟩ = some (strV zs[j]) ∧ b < w.heap.size) := g
  have hti : (t : Int) ≤ 18446744073709551615 := by omega
  clear g ht
  go_enter Try.func72, Try.ntmps72
  go_wp2_with fail
  go_loopw [13] (fun i wr => ∃ (k : Nat) (acc : List UInt8), k ≤ n ∧ i = .int .i64 k ∧ Hid (Lib.IsBuilder 110 5 w.heap.size w.heap.size (Lib.byteCells acc) wr) ∧ Below w.heap.size w wr ∧
      Hid (joinL zs t = (acc ++ (joinL (zs.drop k) ((t + k) % two64)).1, k + (joinL (zs.drop k) ((t + k) % two64)).2))) (fun i _ => n - (intOf i).toNat)
  case atStart =>
    refine ⟨0, [], by omega, rfl, (isb_new w : Lib.IsBuilder _ _ _ _ _ _), (Below.refl _ w).alloc (Nat.le_refl _) _, ?_⟩
    show _ = _
    have : (t + 0) % two64 = t := by unfold two64; have := HT.out; omega
    rw [this]; simp
  case round =>
    obtain ⟨k, acc, hk, rfl, HI, hW, HJ⟩ := hrel
    have hsz := hW.size
    by_cases hlt : k < n
    · have hkz : k < zs.length := by rw [← HN.out.1]; exact hlt
      obtain ⟨b, i, rfl, q1, l1⟩ := HG.out k hkz
      have r1 := (hW.cell (p := ⟨b, i + k, none⟩) l1).trans q1
      have hzk := HN.out.2 _ (List.getElem_mem hkz)
      have hD : zs.drop k = zs[k] :: zs.drop (k + 1) := List.drop_eq_getElem_cons hkz
      generalize zs[k] = z at r1 hzk hD
      unfold strV at r1
      have e1 : IntKind.u64.wrap (k : Int) = (k : Int) := by rw [IntKind.wrap_u64]; omega
      have e2 := wrap_tag t k
      obtain ⟨T, hT⟩ : ∃ T, T = (t + k) % two64 := ⟨_, rfl⟩
      rw [← hT] at e2
      have cw := fun w => within_any z T w hzk (by rw [hT]; exact tag_lt t k)
      unfold StrIs at cw
      obtain ⟨⟨d, y⟩, hg⟩ : ∃ gg, getL z T = gg := ⟨_, rfl⟩
      have hdl := getL_len z T
      rw [hg] at cw hdl
      simp only at cw hdl
      by_cases hy : y = 0
      · subst hy
        have HJ2 : Hid (joinL zs t = ((acc ++ d) ++ (joinL (zs.drop (k + 1)) ((t + (k + 1)) % two64)).1, (k + 1) + (joinL (zs.drop (k + 1)) ((t + (k + 1)) % two64)).2)) := by
          show _ = _
          rw [HJ.out, hD, ← hT, joinL_ok hg, hT, next_tag]
          simp [List.append_assoc]; omega
        have hL : acc.length + d.length ≤ 140737488355328 := by
          have := HSm.out
          rw [HJ2.out] at this
          simp at this; omega
        clear q1 hD hT hg
        go_wp2_with fail
        go_at_call 93; refine (cw _).mono ?_; rintro e w3 ⟨rfl, hb3⟩
        go_wp2_with fail
        have hI3 := isb_below HI.out hb3
        have hs3 := hb3.size
        go_at_call 83
        refine (writeString_any w.heap.size w.heap.size _ ⟨d.toArray⟩ w3 hI3 (by rw [Lib.byteCells_length]; show _ + d.toArray.size ≤ _; simp; omega) (by omega)).mono ?_
        rintro e w4 ⟨rfl, hI4, hb4⟩
        rw [strCells_eq, byteCells_app] at hI4
        have HI4 : Hid (Lib.IsBuilder 110 5 w.heap.size w.heap.size (Lib.byteCells (acc ++ d)) w4) := hI4
        clear hI3 hI4
        go_wp2
        go_roundw
        case rel => exact ⟨k + 1, acc ++ d, by omega, by go_num, HI4, (hW.trans (hb3.mono hsz)).trans hb4, HJ2⟩
        case measure => simp [intOf]; omega
      · have HF : Hid (joinL zs t = (acc, k)) := by
          show _ = _
          rw [HJ.out, hD, ← hT, joinL_bad (by rw [hg]; exact hy)]; simp
        have hy2 : (y != 0) = true := by simpa using hy
        clear q1 hD hT hg
        go_wp2_with fail
        go_at_call 93; refine (cw _).mono ?_; rintro e w3 ⟨rfl, hb3⟩
        go_wp2_with fail
        have hI3 := isb_below HI.out hb3
        have hs3 := hb3.size
        go_at_call 84
        refine (Try.Builder_String_any w.heap.size w.heap.size _ w3 hI3 (by omega)).mono ?_
        rintro e w5 ⟨rfl, hb5⟩
        go_wp2
        go_ret2
        exact ⟨ret_join (by rw [HF.out]) (by rw [HF.out]), (hW.trans (hb3.mono hsz)).trans hb5⟩
    · obtain rfl : k = n := by omega
      have HF : Hid (joinL zs t = (acc, k)) := by
        show _ = _
        rw [HJ.out, List.drop_of_length_le (by rw [HN.out.1]; exact Nat.le_refl _)]; simp [joinL]
      go_wp2_with fail
      go_at_call 84
      refine (Try.Builder_String_any w.heap.size w.heap.size _ wr HI.out hsz).mono ?_
      rintro e w5 ⟨rfl, hb5⟩
      go_wp2
      go_ret2
      exact ⟨ret_join (by rw [HF.out]) (by rw [HF.out]), hW.trans hb5⟩
end Go.Proofs.Ytbikcpchlgmoaaa.Page
