/- What frame.first, Next and the document's Next return, for every text. -/
import Derived.Test.YtoigogjklhahkaaWalkFrame
import Derived.Laws.ResultCell
set_option linter.unusedVariables false
namespace Go.Proofs.Ytoigogjklhahkaa.Frame
open Go.RowKit

def OneIs (l : List UInt8) (w : World) (e : Ending) (w' : World) : Prop :=
  e = .returned (.tuple #[.agg #[.string ⟨(nextL l).1.toArray⟩, .string ⟨(nextL l).2.1.toArray⟩], .int .i64 (nextL l).2.2]) ∧ Below w.heap.size w w'
theorem oneIs_err {l : List UInt8} {w w' : World} {y : Int} (h : nextL l = ([], [], y)) (hb : Below w.heap.size w w') : OneIs l w (.returned (.tuple #[.agg #[.string ⟨#[]⟩, .string ⟨#[]⟩], .int .i64 y])) w' := by
  refine ⟨?_, hb⟩; rw [h]
theorem oneIs_ok {l p r : List UInt8} {P R : ByteArray} {w w' : World} (h : nextL l = (p, r, 0)) (hP : P = ⟨p.toArray⟩) (hR : R = ⟨r.toArray⟩) (hb : Below w.heap.size w w') : OneIs l w (.returned (.tuple #[.agg #[.string P, .string R], .int .i64 0])) w' := by
  refine ⟨?_, hb⟩; rw [h, hP, hR]

theorem slice_lh {P : Program} (W : World) {t : TypeId} (s : ByteArray) (ht : P.underlying t = some .string) (l h : Int) (h0 : 0 ≤ l) (h1 : l ≤ h) (h2 : h ≤ s.size) :
    (Instr.slice t (.string s) (some (.int .i64 l)) (some (.int .i64 h)) none).run P W = .ok (.string (s.extract l.toNat h.toNat)) W := by
  have h3 : 0 ≤ h := by omega
  have h4 : ¬ max h 0 < l := by omega
  simp [Instr.slice, run_underlying ht, Instr.sliceBounds, run_sliceBound_if, *]
theorem ne_of {F T : ByteArray} (h : F ≠ T) : (F.toList == T.toList) = false := by
  rw [ByteArray.toList_eq, ByteArray.toList_eq]
  apply beq_eq_false_iff_ne.2
  intro hc
  exact h (by cases F; cases T; simp at hc; rw [hc])
theorem min10 (m : Nat) : (min (m : Int) 10).toNat = min m 10 := by omega
set_option maxHeartbeats 2000000 in
theorem first_any (l : List UInt8) (w : World) (hl : l.length ≤ 281474976710656) :
    Calls Try.prog 46 #[.string ⟨l.toArray⟩] w (OneIs l w) := by
  obtain ⟨⟨n, r, y⟩, hg⟩ : ∃ r, getGo 0 0 l = r := ⟨_, rfl⟩
  obtain ⟨r', hg', hr', hdrop⟩ := getGo_take l 0 0 (by omega) n r y hg
  have c1 := getL hg' (by rw [List.length_take]; omega)
  obtain ⟨S, hS⟩ : ∃ S : ByteArray, S = ⟨l.toArray⟩ := ⟨_, rfl⟩
  have hSs : S.size ≤ 281474976710656 := by rw [hS, size_list]; exact hl
  have hSd : S.data.toList = l := by rw [hS]
  obtain ⟨H, hH⟩ : ∃ H : ByteArray, H = ⟨(l.take (10 - 0)).toArray⟩ := ⟨_, rfl⟩
  obtain ⟨R', hR'⟩ : ∃ R' : ByteArray, R' = ⟨r'.toArray⟩ := ⟨_, rfl⟩
  have hHs : H.size ≤ 10 := by rw [hH, size_list, List.length_take]; omega
  have hHS : H.size ≤ S.size := by rw [hH, hS, size_list, size_list, List.length_take]; omega
  have hRH : R'.size ≤ H.size := by rw [hR', hH, size_list, size_list]; exact hr'
  have HX : Hid (S.extract 0 (min (S.size : Int) 10).toNat = H) := by
    show _ = _
    rw [min10, extract_take, hSd, hH]
    have : S.size = l.length := by rw [hS, size_list]
    rw [this, show min l.length 10 = min 10 l.length by omega, ← List.take_eq_take_min]
  have HG : Hid (getGo 0 0 l = (n, r, y)) := hg
  have HD : Hid (y = 0 → S.extract (H.size - R'.size) S.size = ⟨r.toArray⟩) := fun h0 => by
    rw [extract_drop, hSd, hdrop h0, hH, hR', size_list, size_list]
  rw [← hS]
  rw [← hH, ← hR'] at c1
  clear hg hg' hdrop hr' hS hSd hR' hH
  go_enter Try.func46, Try.ntmps46
  go_wp2_with fail
  rw [HX.out]
  go_at_call 12; refine (c1 _).mono ?_; rintro e w1 ⟨rfl, hb1⟩
  clear HX c1
  obtain ⟨hc, hf⟩ := bcell hb1
  have q0 := hc w.heap.size 0 (by simp)
  have q1 := hc w.heap.size 1 (by simp)
  have f0 := hf w.heap.size 0 (by simp)
  have f1 := hf w.heap.size 1 (by simp)
  have hw1 := hb1.size
  rw [World.size_alloc] at hw1
  simp [go_sem] at q0 q1 f0 f1
  clear hc hf
  have hbw : Below w.heap.size w w1 := ((Below.refl _ w).alloc (Nat.le_refl _) _).trans (hb1.mono (by simp))
  clear hb1
  by_cases he : y = 0
  · subst he
    have hD := HD.out rfl
    clear HD
    obtain ⟨B, hB⟩ : ∃ B : ByteArray, B = ⟨r.toArray⟩ := ⟨_, rfl⟩
    have HB : Hid (B.data.toList = r ∧ B.size = r.length) := by rw [hB]; exact ⟨by simp, size_list r⟩
    rw [← hB] at hD
    have hBs : B.size ≤ 281474976710656 := by rw [← hD, ByteArray.size_extract]; omega
    clear hB
    by_cases hn : n ≤ 4096
    · by_cases hr : n + 4 ≤ B.size
      · have hr' : n + 4 ≤ r.length := by rw [← HB.out.2]; exact hr
        have c2 := fun w => sumOf_any ((r.drop 4).take n) w (by rw [List.length_take]; omega)
        obtain ⟨P, hP⟩ : ∃ P : ByteArray, P = ⟨((r.drop 4).take n).toArray⟩ := ⟨_, rfl⟩
        obtain ⟨T, hT⟩ : ∃ T : ByteArray, T = ⟨(sumL ((r.drop 4).take n)).toArray⟩ := ⟨_, rfl⟩
        obtain ⟨Q, hQ⟩ : ∃ Q : ByteArray, Q = ⟨(r.drop (n + 4)).toArray⟩ := ⟨_, rfl⟩
        obtain ⟨F, hF⟩ : ∃ F : ByteArray, F = ⟨(r.take 4).toArray⟩ := ⟨_, rfl⟩
        have x1 : B.extract 4 (4 + n) = P := by
          rw [hP, ← HB.out.1]
          apply ByteArray.ext
          rw [ByteArray.data_extract]
          apply Array.toList_inj.1
          simp
        have x2 : B.extract (4 + n) B.size = Q := by rw [extract_drop, HB.out.1, hQ, Nat.add_comm]
        have x3 : B.extract 0 4 = F := by rw [extract_take, HB.out.1, hF]
        rw [← hP, ← hT] at c2
        have HP : Hid (P = ⟨((r.drop 4).take n).toArray⟩) := hP
        have HQ : Hid (Q = ⟨(r.drop (n + 4)).toArray⟩) := hQ
        have HT : Hid (T = ⟨(sumL ((r.drop 4).take n)).toArray⟩) := hT
        have HF : Hid (F = ⟨(r.take 4).toArray⟩) := hF
        clear hP hQ hT hF hr'
        have e0 : IntKind.i64.wrap (n : Int) = (n : Int) := by rw [IntKind.wrap_i64]; omega
        have e1 : (4 + (n : Int)).toNat = 4 + n := by omega
        have k1 : ∀ W, (Instr.slice 9 (.string B) (some (.int .i64 4)) (some (.int .i64 (4 + (n : Int)))) none).run Try.prog W = .ok (.string P) W := by
          intro W
          rw [slice_lh W B Try.underlying9 4 (4 + (n : Int)) (by omega) (by omega) (by omega), e1]
          exact congrArg (fun x => Result.ok (Value.string x) W) x1
        go_wp2_with fail
        go_region
        by_cases hs : F = T
        · subst hs
          go_wp2_with fail
          go_region_with (go_at_call 15; refine (c2 _).mono ?_; rintro e w2 ⟨rfl, hb2⟩)
          all_goals have q4 := (bcell hb2).1 w1.heap.size 0 (by simp)
          all_goals have q5 := (bcell hb2).1 w1.heap.size 1 (by simp)
          all_goals simp [go_sem] at q4 q5
          all_goals have hb12 : Below w1.heap.size w1 w2 := below2 (by (repeat' (first | exact Below.refl _ _ | refine Below.drew ?_ | refine Below.alloc ?_ (by simp) _))) hb2
          all_goals clear hb2
          all_goals have q2 := ((bcell hb12).1 w.heap.size 0 (by omega)).trans q0
          all_goals have q3 := ((bcell hb12).1 w.heap.size 1 (by omega)).trans q1
          all_goals have f2 := ((bcell hb12).2 w.heap.size 0 (by omega)).trans f0
          all_goals have f3 := ((bcell hb12).2 w.heap.size 1 (by omega)).trans f1
          all_goals have hb3 : Below w.heap.size w w2 := below2 hbw hb12
          all_goals clear hb12 hbw q0 q1 f0 f1
          all_goals go_wp2
          all_goals (try simp only [Exit.inBlock, Exit.then])
          all_goals refine bodyPost_ret (v := .tuple #[.agg #[.string P, .string Q], .int .i64 0]) ?_ rfl (oneIs_ok (nextL_ok HG.out hn (by rw [← HB.out.2]; exact hr) (by have := HF.out.symm.trans HT.out; simpa using this)) HP.out HQ.out ?_)
          all_goals first | exact (hb3.setCell (p := ⟨w.heap.size, 0, none⟩) (Nat.le_refl _) _).setCell (p := ⟨w.heap.size, 1, none⟩) (Nat.le_refl _) _ | (rw [results_cell_tmp rfl]; go_simp)
        · have hs' := ne_of hs
          go_wp2_with fail
          go_region_with (go_at_call 15; refine (c2 _).mono ?_; rintro e w2 ⟨rfl, hb2⟩)
          all_goals have q4 := (bcell hb2).1 w1.heap.size 0 (by simp)
          all_goals have q5 := (bcell hb2).1 w1.heap.size 1 (by simp)
          all_goals simp [go_sem] at q4 q5
          all_goals have hb12 : Below w1.heap.size w1 w2 := below2 (by (repeat' (first | exact Below.refl _ _ | refine Below.drew ?_ | refine Below.alloc ?_ (by simp) _))) hb2
          all_goals clear hb2
          all_goals have q2 := ((bcell hb12).1 w.heap.size 0 (by omega)).trans q0
          all_goals have q3 := ((bcell hb12).1 w.heap.size 1 (by omega)).trans q1
          all_goals have f2 := ((bcell hb12).2 w.heap.size 0 (by omega)).trans f0
          all_goals have f3 := ((bcell hb12).2 w.heap.size 1 (by omega)).trans f1
          all_goals have hb3 : Below w.heap.size w w2 := below2 hbw hb12
          all_goals clear hb12 hbw q0 q1 f0 f1
          all_goals go_wp2
          all_goals (try simp only [Exit.inBlock, Exit.then])
          all_goals refine bodyPost_ret (v := .tuple #[.agg #[.string ⟨#[]⟩, .string ⟨#[]⟩], .int .i64 6]) ?_ rfl (oneIs_err (nextL_sum HG.out hn (by rw [← HB.out.2]; exact hr) (fun hc => hs (by rw [HF.out, HT.out, hc]))) ?_)
          all_goals first | exact (hb3.setCell (p := ⟨w.heap.size, 0, none⟩) (Nat.le_refl _) _).setCell (p := ⟨w.heap.size, 1, none⟩) (Nat.le_refl _) _ | (rw [results_cell_tmp rfl]; go_simp)
      · go_wp2
        (try simp only [Exit.inBlock, Exit.then])
        refine bodyPost_ret (v := .tuple #[.agg #[.string ⟨#[]⟩, .string ⟨#[]⟩], .int .i64 5]) ?_ rfl (oneIs_err (nextL_short HG.out hn (by rw [← HB.out.2]; exact hr)) ?_)
        · rw [results_cell_tmp rfl]
          go_simp
        · exact (hbw.setCell (p := ⟨w.heap.size, 0, none⟩) (Nat.le_refl _) _).setCell (p := ⟨w.heap.size, 1, none⟩) (Nat.le_refl _) _
    · go_wp2
      (try simp only [Exit.inBlock, Exit.then])
      refine bodyPost_ret (v := .tuple #[.agg #[.string ⟨#[]⟩, .string ⟨#[]⟩], .int .i64 7]) ?_ rfl (oneIs_err (nextL_many HG.out hn) ?_)
      · rw [results_cell_tmp rfl]
        go_simp
      · exact (hbw.setCell (p := ⟨w.heap.size, 0, none⟩) (Nat.le_refl _) _).setCell (p := ⟨w.heap.size, 1, none⟩) (Nat.le_refl _) _
  · have hne : (y != 0) = true := by simpa using he
    go_wp2
    (try simp only [Exit.inBlock, Exit.then])
    refine bodyPost_ret (v := .tuple #[.agg #[.string ⟨#[]⟩, .string ⟨#[]⟩], .int .i64 y]) ?_ rfl (oneIs_err (nextL_err HG.out he) ?_)
    · rw [results_cell_tmp rfl]
      go_simp
    · exact (hbw.setCell (p := ⟨w.heap.size, 0, none⟩) (Nat.le_refl _) _).setCell (p := ⟨w.heap.size, 1, none⟩) (Nat.le_refl _) _
end Go.Proofs.Ytoigogjklhahkaa.Frame
