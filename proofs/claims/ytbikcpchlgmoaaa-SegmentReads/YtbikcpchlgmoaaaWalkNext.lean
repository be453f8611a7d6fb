/- What frame.Next and the document's Next return, for every text. -/
import Derived.Test.YtbikcpchlgmoaaaWalkFirst
import Derived.Deep.DeepCutAuto
import Derived.Deep.QuietTactic
set_option linter.unusedVariables false
namespace Go.Proofs.Ytbikcpchlgmoaaa.Frame
open Go.RowKit

def NextIs (l : List UInt8) (w : World) (e : Ending) (w' : World) : Prop :=
  e = .returned (.tuple #[.string ⟨(nextL l).1.toArray⟩, .string ⟨(nextL l).2.1.toArray⟩, .int .i64 (nextL l).2.2]) ∧ Below w.heap.size w w'
theorem nextIs_err {l : List UInt8} {w w' : World} {y : Int} (h : nextL l = ([], [], y)) (hb : Below w.heap.size w w') : NextIs l w (.returned (.tuple #[.string ⟨#[]⟩, .string ⟨#[]⟩, .int .i64 y])) w' := by
  refine ⟨?_, hb⟩; rw [h]
theorem nextIs_ok {l p r : List UInt8} {P R : ByteArray} {w w' : World} (h : nextL l = (p, r, 0)) (hP : P = ⟨p.toArray⟩) (hR : R = ⟨r.toArray⟩) (hb : Below w.heap.size w w') : NextIs l w (.returned (.tuple #[.string P, .string R, .int .i64 0])) w' := by
  refine ⟨?_, hb⟩; rw [h, hP, hR]

theorem nextIs_of {l p r : List UInt8} {P R : ByteArray} {w w' : World} {e : Ending} (h : nextL l = (p, r, 0)) (hP : P = ⟨p.toArray⟩) (hR : R = ⟨r.toArray⟩) (he : e = .returned (.tuple #[.string P, .string R, .int .i64 0])) (hb : Below w.heap.size w w') : NextIs l w e w' := by
  subst he; exact nextIs_ok h hP hR hb
theorem nextIs_ofe {l : List UInt8} {w w' : World} {y : Int} {e : Ending} (h : nextL l = ([], [], y)) (he : e = .returned (.tuple #[.string ⟨#[]⟩, .string ⟨#[]⟩, .int .i64 y])) (hb : Below w.heap.size w w') : NextIs l w e w' := by
  subst he; exact nextIs_err h hb
theorem slice_lhu {P : Program} (W : World) {t : TypeId} (s : ByteArray) (ht : P.underlying t = some .string) (l h : Int) (h0 : 0 ≤ l) (h1 : l ≤ h) (h2 : h ≤ s.size) :
    (Instr.slice t (.string s) (some (.int .i64 l)) (some (.int .u64 h)) none).run P W = .ok (.string (s.extract l.toNat h.toNat)) W := by
  have h3 : 0 ≤ h := by omega
  have h4 : ¬ max h 0 < l := by omega
  simp [Instr.slice, run_underlying ht, Instr.sliceBounds, run_sliceBound_if, *]
set_option maxHeartbeats 2000000 in
theorem rnext_any (l : List UInt8) (w : World) (hl : l.length ≤ 281474976710656) :
    Calls Try.prog 76 #[.string ⟨l.toArray⟩] w (NextIs l w) := by
  obtain ⟨⟨n, r, y⟩, hg⟩ : ∃ r, getGo 0 0 l = r := ⟨_, rfl⟩
  have hrl : r.length ≤ l.length := by have := getGo_len l 0 0; rw [hg] at this; exact this
  have c1 := rgetL hg hl
  obtain ⟨S, hS⟩ : ∃ S : ByteArray, S = ⟨l.toArray⟩ := ⟨_, rfl⟩
  obtain ⟨B, hB⟩ : ∃ B : ByteArray, B = ⟨r.toArray⟩ := ⟨_, rfl⟩
  have HB : Hid (B.data.toList = r ∧ B.size = r.length) := by rw [hB]; exact ⟨by simp, size_list r⟩
  have hBs : B.size ≤ 281474976710656 := by rw [HB.out.2]; omega
  have HG : Hid (getGo 0 0 l = (n, r, y)) := hg
  rw [← hS, ← hB] at c1
  rw [← hS]
  clear hg hS hB hrl
  go_enter Try.func76, Try.ntmps76
  go_wp2_with fail
  go_at_call 98; refine (c1 _).mono ?_; rintro e w1 ⟨rfl, hb1⟩
  clear c1
  by_cases he : y = 0
  · subst he
    by_cases hn : n ≤ 4096
    · have e0 : IntKind.u64.wrap (B.size : Int) = (B.size : Int) := by rw [IntKind.wrap_u64]; omega
      have e2 : IntKind.u64.wrap ((n : Int) + 4) = (n : Int) + 4 := by rw [IntKind.wrap_u64]; omega
      by_cases hr : n + 4 ≤ B.size
      · have hr' : n + 4 ≤ r.length := by rw [← HB.out.2]; exact hr
        have c2 := fun w => rofL ((r.drop 4).take n) w (by rw [List.length_take]; omega)
        have c3 := fun w => Crc.rtext_any (Crc.onL 0 ((r.drop 4).take n)) w (sum_lt _)
        obtain ⟨P, hP⟩ : ∃ P : ByteArray, P = ⟨((r.drop 4).take n).toArray⟩ := ⟨_, rfl⟩
        obtain ⟨T, hT⟩ : ∃ T : ByteArray, T = ⟨(sumL ((r.drop 4).take n)).toArray⟩ := ⟨_, rfl⟩
        obtain ⟨Q, hQ⟩ : ∃ Q : ByteArray, Q = ⟨(r.drop (n + 4)).toArray⟩ := ⟨_, rfl⟩
        obtain ⟨F, hF⟩ : ∃ F : ByteArray, F = ⟨(r.take 4).toArray⟩ := ⟨_, rfl⟩
        obtain ⟨X, hX⟩ : ∃ X, X = Crc.onL 0 ((r.drop 4).take n) := ⟨_, rfl⟩
        rw [show sumL ((r.drop 4).take n) = Crc.textR (Crc.onL 0 ((r.drop 4).take n)) from rfl] at hT
        have HT : Hid (T = ⟨(sumL ((r.drop 4).take n)).toArray⟩) := hT
        have x1 : B.extract 4 (n + 4) = P := by
          rw [hP, ← HB.out.1]
          apply ByteArray.ext
          rw [ByteArray.data_extract]
          apply Array.toList_inj.1
          simp
        have x2 : B.extract (n + 4) B.size = Q := by rw [extract_drop, HB.out.1, hQ]
        have x3 : B.extract 0 4 = F := by rw [extract_take, HB.out.1, hF]
        rw [← hT, ← hX] at c3
        rw [← hP, ← hX] at c2
        have HP : Hid (P = ⟨((r.drop 4).take n).toArray⟩) := hP
        have HQ : Hid (Q = ⟨(r.drop (n + 4)).toArray⟩) := hQ
        have HF : Hid (F = ⟨(r.take 4).toArray⟩) := hF
        clear hP hQ hT hF hr' hX
        have e1 : ((n : Int) + 4).toNat = n + 4 := by omega
        have k1 : ∀ W, (Instr.slice 9 (.string B) (some (.int .i64 4)) (some (.int .u64 ((n : Int) + 4))) none).run Try.prog W = .ok (.string P) W := by
          intro W
          rw [slice_lhu W B Try.underlying9 4 ((n : Int) + 4) (by omega) (by omega) (by omega), e1]
          exact congrArg (fun x => Result.ok (Value.string x) W) x1
        have k2 : ∀ W, (Instr.slice 9 (.string B) (some (.int .u64 ((n : Int) + 4))) none none).run Try.prog W = .ok (.string Q) W := by
          intro W
          rw [run_slice_string_l W 9 B Try.underlying9 .u64 ((n : Int) + 4) (by omega) (by omega), e1, x2]
        by_cases hs : F = T
        · subst hs
          go_wp2_with fail
          go_cut [35] (fun c wc => c = .bool false ∧ Below w.heap.size w wc)
          case first =>
            go_region_with (first
              | (go_at_call 89; refine (c2 _).mono ?_; rintro e w2 ⟨rfl, rfl⟩)
              | (go_at_call 88; refine (c3 _).mono ?_; rintro e w3 ⟨rfl, hb3⟩))
            all_goals have hb4 : Below w.heap.size w w3 := below2 hb1 (below2 (by (repeat' (first | exact Below.refl _ _ | refine Below.drew ?_ | refine Below.alloc ?_ (by simp) _))) hb3)
            all_goals clear hb3
            all_goals go_wp2_with fail
            all_goals go_meet
            all_goals exact ⟨rfl, hb4⟩
          case rest =>
            obtain ⟨rfl, hb4⟩ := hcut
            go_wp2_with fail
            go_quiet (fail)
            go_wp2
            go_ret3
            refine nextIs_of (nextL_ok HG.out hn (by rw [← HB.out.2]; exact hr) (by have := HF.out.symm.trans HT.out; simpa using this)) HP.out HQ.out rfl ?_
            first | exact hb4 | exact hb4.drew | exact below_drewN hb4 _
        · have hs' := ne_of hs
          go_wp2_with fail
          go_cut [35] (fun c wc => c = .bool true ∧ Below w.heap.size w wc)
          case first =>
            go_region_with (first
              | (go_at_call 89; refine (c2 _).mono ?_; rintro e w2 ⟨rfl, rfl⟩)
              | (go_at_call 88; refine (c3 _).mono ?_; rintro e w3 ⟨rfl, hb3⟩))
            all_goals have hb4 : Below w.heap.size w w3 := below2 hb1 (below2 (by (repeat' (first | exact Below.refl _ _ | refine Below.drew ?_ | refine Below.alloc ?_ (by simp) _))) hb3)
            all_goals clear hb3
            all_goals go_wp2_with fail
            all_goals go_meet
            all_goals exact ⟨rfl, hb4⟩
          case rest =>
            obtain ⟨rfl, hb4⟩ := hcut
            go_wp2
            go_ret3
            exact nextIs_ofe (nextL_sum HG.out hn (by rw [← HB.out.2]; exact hr) (fun hc => hs (by rw [HF.out, HT.out, hc]))) rfl hb4
      · go_wp2
        go_ret3
        exact nextIs_err (nextL_short HG.out hn (by rw [← HB.out.2]; exact hr)) hb1
    · go_wp2
      go_ret3
      exact nextIs_err (nextL_many HG.out hn) hb1
  · have hne : (y != 0) = true := by simpa using he
    go_wp2
    go_ret3
    exact nextIs_err (nextL_err HG.out he) hb1
end Go.Proofs.Ytbikcpchlgmoaaa.Frame
