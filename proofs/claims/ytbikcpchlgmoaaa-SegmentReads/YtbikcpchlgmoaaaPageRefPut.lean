/- What the document's Put returns, for every tag and data. -/
import Derived.Test.YtbikcpchlgmoaaaPageRef
set_option linter.unusedVariables false
namespace Go.Proofs.Ytbikcpchlgmoaaa.Page
open Go.RowKit

theorem conv_one (x : Int) (h0 : 0 ≤ x) (h1 : x ≤ 255) (W : World) (g : Nat) (hc : W.cell? ⟨g, 0, none⟩ = some (.int .u8 x)) :
    (convert 65 9 (.slice (some ⟨g, 0, none⟩) 1 1)).run Try.prog W = .ok (.string ⟨#[UInt8.ofNat x.toNat]⟩) W :=
  run_convert_bytes_back (P := Try.prog) W 65 9 5 ⟨g, 0, none⟩ 1 [UInt8.ofNat x.toNat] Try.underlying65 Try.underlying5 Try.underlying9 (fun j hj => by
    obtain rfl : j = 0 := by simpa using hj
    rw [addr_add, Nat.zero_add, hc]
    simp
    omega)
theorem rput_page (n : Nat) (l : List UInt8) (M : Nat) (hM : M = l.length) : (⟨(eightL n).toArray⟩ ++ ⟨#[UInt8.ofNat ((M : Int)).toNat]⟩ ++ ⟨l.toArray⟩ ++ ⟨(List.replicate (111 - M) 0).toArray⟩ ++ ⟨(eightL n).toArray⟩ : ByteArray) = ⟨(pageL n l).toArray⟩ := by
  rw [show (⟨#[UInt8.ofNat ((M : Int)).toNat]⟩ : ByteArray) = ⟨([UInt8.ofNat M] : List UInt8).toArray⟩ by simp]
  rw [str_app, str_app, str_app, str_app, hM, pageL]
  simp
theorem cell_keep {X Y : World} (hb : Below X.heap.size X Y) (v : Value) (g : Nat) (h : X.cell? ⟨g, 0, none⟩ = some v) : Y.cell? ⟨g, 0, none⟩ = some v := by
  have hlt : g < X.heap.size := by
    apply Decidable.byContradiction
    intro hn
    simp only [World.cell?] at h
    rw [Array.getElem?_eq_none (by omega)] at h
    simp at h
  exact (hb.cell (p := ⟨g, 0, none⟩) hlt).trans h
theorem cell_new (W : World) (v : Value) (t : TypeId) : (W.alloc (.cells #[v] t)).cell? ⟨W.heap.size, 0, none⟩ = some v := by
  have := (RowAt.new W [v] t).cell 0
  exact this
set_option maxHeartbeats 40000000 in
theorem rput_ok (n : Nat) (l : List UInt8) (w : World) (h : n < 18446744073709551616) (h0 : n ≠ 0) (hl : l.length ≤ 111) :
    Calls Try.prog 32 #[.int .u64 (n : Int), .string ⟨l.toArray⟩] w (StrIs (pageL n l, 0) w) := by
  have hz : (⟨l.toArray⟩ : ByteArray).size = l.length := size_list l
  have HP := rput_page n l l.length rfl
  have c1 := fun w => reight_any n w h
  have c2 := fun w => zeros_any (111 - l.length) w (by omega)
  have hE8 : (⟨(eightL n).toArray⟩ : ByteArray).size = 8 := rfl
  have hZ8 : (⟨(List.replicate (111 - l.length) (0 : UInt8)).toArray⟩ : ByteArray).size ≤ 111 := by rw [size_list]; simp
  obtain ⟨E, hE⟩ : ∃ E : ByteArray, E = ⟨(eightL n).toArray⟩ := ⟨_, rfl⟩
  obtain ⟨Z, hZ⟩ : ∃ Z : ByteArray, Z = ⟨(List.replicate (111 - l.length) (0 : UInt8)).toArray⟩ := ⟨_, rfl⟩
  obtain ⟨S, hS⟩ : ∃ S : ByteArray, S = ⟨l.toArray⟩ := ⟨_, rfl⟩
  obtain ⟨O, hO⟩ : ∃ O : ByteArray, O = ⟨#[UInt8.ofNat ((l.length : Int)).toNat]⟩ := ⟨_, rfl⟩
  rw [← hE, ← hZ, ← hS, ← hO] at HP
  rw [← hE] at c1 hE8
  rw [← hZ] at c2 hZ8
  rw [← hS] at hz ⊢
  have hO1 : O.size ≤ 1 := by rw [hO]; exact Nat.le_refl _
  have hcv := fun W g => conv_one (l.length : Int) (by omega) (by omega) W g
  rw [← hO] at hcv
  have e111 : ((111 - l.length : Nat) : Int) = 111 - (S.size : Int) := by omega
  rw [e111] at c2
  rw [← hz] at hcv
  have HQ : Hid (E ++ O ++ S ++ Z ++ E = ⟨(pageL n l).toArray⟩) := HP
  have hSz : S.size ≤ 111 := by omega
  have hEz : E.size ≤ 8 := by omega
  have hn0 : ((n : Int) == 0) = false := by rw [beq_eq_false_iff_ne]; omega
  have hne : ¬ ((n : Int) = 0) := by omega
  have e0 : IntKind.u8.wrap (S.size : Int) = (S.size : Int) := by rw [IntKind.wrap_u8]; omega
  have e1 : IntKind.i64.wrap (111 - (S.size : Int)) = 111 - (S.size : Int) := by rw [IntKind.wrap_i64]; omega
  have n1 : ¬ 9223372036854775807 < E.size + O.size := by omega
  have n2 : ¬ 9223372036854775807 < E.size + O.size + S.size := by omega
  have n3 : ¬ 9223372036854775807 < E.size + O.size + S.size + Z.size := by omega
  have n4 : ¬ 9223372036854775807 < E.size + O.size + S.size + Z.size + E.size := by omega
  clear hE hZ hS hO HP hz hE8 e111 h
  unfold StrIs
  go_enter Try.func32, Try.ntmps32
  go_wp2_with fail
  go_region_with (first | (go_at_call 63; refine (c1 _).mono ?_; rintro e w1 ⟨rfl, hb⟩; (first | have hq := cell_keep hb _ _ hq | have hq := cell_keep hb _ _ (cell_new _ _ _) | skip); have hW : Below w.heap.size w w1 := below2 (by first | exact hW | exact hW.alloc hW.size _ | exact (Below.refl _ _).drew | exact ((Below.refl _ _).drew).alloc (by simp) _) hb) | (go_at_call 64; refine (c2 _).mono ?_; rintro e w1 ⟨rfl, hb⟩; (first | have hq := cell_keep hb _ _ hq | have hq := cell_keep hb _ _ (cell_new _ _ _) | skip); have hW : Below w.heap.size w w1 := below2 (by first | exact hW | exact hW.alloc hW.size _ | exact (Below.refl _ _).drew | exact ((Below.refl _ _).drew).alloc (by simp) _) hb))
  all_goals go_wp2
  all_goals go_ret2
  all_goals exact ⟨ret_strs HQ.out, by first | exact hW | exact hW.alloc hW.size _⟩
theorem rput_any (n : Nat) (l : List UInt8) (w : World) (h : n < 18446744073709551616) (hl : l.length ≤ 9223372036854775807) :
    Calls Try.prog 32 #[.int .u64 (n : Int), .string ⟨l.toArray⟩] w (StrIs (putL n l) w) := by
  have hz : (⟨l.toArray⟩ : ByteArray).size = l.length := size_list l
  by_cases h0 : n = 0
  · subst h0
    rw [putL_zero]
    unfold StrIs
    go_enter Try.func32, Try.ntmps32
    go_wp2
    go_ret2
    exact ⟨rfl, Below.refl _ _⟩
  · by_cases hd : l.length ≤ 111
    · rw [putL_ok h0 hd]
      exact rput_ok n l w h h0 hd
    · have hn0 : ((n : Int) == 0) = false := by rw [beq_eq_false_iff_ne]; omega
      have hne : ¬ ((n : Int) = 0) := by omega
      rw [putL_long h0 hd]
      unfold StrIs
      obtain ⟨S, hS⟩ : ∃ S : ByteArray, S = ⟨l.toArray⟩ := ⟨_, rfl⟩
      rw [← hS] at hz ⊢
      have hzi : 111 < S.size := by omega
      have hzl : S.size ≤ 9223372036854775807 := by omega
      clear hS hz h h0
      go_enter Try.func32, Try.ntmps32
      go_wp2
      go_ret2
      exact ⟨rfl, Below.refl _ _⟩
end Go.Proofs.Ytbikcpchlgmoaaa.Page
