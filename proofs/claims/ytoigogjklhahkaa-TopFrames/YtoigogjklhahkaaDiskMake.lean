/- What disk.Make returns, for every number. -/
import Derived.Test.YtoigogjklhahkaaDiskFns
import Derived.Laws.CopyRow
set_option linter.unusedVariables false
namespace Go.Proofs.Ytoigogjklhahkaa.Disk
open Go.RowKit Go.Shelf

/-- a row of n texts, the first k of them Z -/
def rowK (Z : ByteArray) (n k : Nat) : List Value := List.replicate k (.string Z) ++ List.replicate (n - k) (.string ⟨#[]⟩)
theorem rowK_len (Z : ByteArray) (n k : Nat) (h : k ≤ n) : (rowK Z n k).length = n := by simp [rowK]; omega
theorem rowK_next (Z : ByteArray) (n k c : Nat) (hc : k + c ≤ n) : (rowK Z n k).take k ++ List.replicate c (.string Z) ++ (rowK Z n k).drop (k + c) = rowK Z n (k + c) := by
  unfold rowK
  rw [List.take_left' (by simp), List.drop_append, List.drop_of_length_le (by simp), List.length_replicate, List.nil_append, List.drop_replicate, List.replicate_append_replicate, show k + c - k = c by omega, show n - k - c = n - (k + c) by omega]
theorem setRow_same (W : World) (g : Nat) (cs cs' : Array Value) {t : TypeId} (h : W.heap[g]? = some (.cells cs t)) : (W.setRow g cs').heap[g]? = some (.cells cs' t) := by
  simp [World.setRow, Array.getElem?_modify, h]
theorem below_setRow {B g : Nat} {w0 w : World} (hb : Below B w0 w) (hBg : B ≤ g) (cs : Array Value) : Below B w0 (w.setRow g cs) :=
  hb.trans ⟨rfl, rfl, rfl, by simp [World.setRow], fun k hk => by simp only [World.setRow, Array.getElem?_modify]; rw [if_neg (by omega)]⟩
theorem copy_run (W : World) (g n k c : Nat) (Z : ByteArray) (hg : W.heap[g]? = some (.cells (rowK Z n k).toArray 9)) (hk : k ≤ n) (hc : c = min k (n - k)) (ty : TypeId) :
    (Builtin.copy_ #[22, 22] ty #[.slice (some ⟨g, k, none⟩) (n - k) (n - k), .slice (some ⟨g, 0, none⟩) k n]).run Try.prog W = .ok (.int .i64 (c : Int)) (W.setRow g (rowK Z n (k + c)).toArray) := by
  have h := run_copy_row (P := Try.prog) W 22 22 ty 9 g k (n - k) (n - k) ⟨g, 0, none⟩ k n (rowK Z n k).toArray 9 (List.replicate c (.string Z)) Try.underlying22 (by kernel_rfl) hg (by simp; exact hc) (fun j v hj => by
    rw [addr_add, Nat.zero_add]
    have hj2 := (List.getElem?_eq_some_iff.1 hj).1
    simp only [List.length_replicate] at hj2
    have : v = .string Z := by rw [List.getElem?_replicate] at hj; simp [hj2] at hj; exact hj.symm
    subst this
    simp only [World.cell?, hg]
    rw [if_neg (by simp)]
    show (rowK Z n k).toArray[j]? = _
    rw [List.getElem?_toArray, rowK, List.getElem?_append_left (by simp; omega), List.getElem?_replicate, if_pos (by omega)]) (by simp [rowK_len _ _ _ hk]; omega) (fun v hv => by rw [List.eq_of_mem_replicate hv]; rfl)
  rw [h, List.length_replicate]
  simp only [goInt]
  rw [rowK_next Z n k c (by omega)]
set_option maxHeartbeats 2000000 in
set_option maxRecDepth 20000 in
theorem repeat_any (b n : Nat) (Z : ByteArray) (w : World) (hb : b < w.heap.size) (hz : w.cell? ⟨b, 0, none⟩ = some (.string Z)) (hn : 1 ≤ n) (hn2 : n ≤ 1024) :
    Calls Try.prog 18 #[.slice (some ⟨b, 0, none⟩) 1 1, .int .i64 (n : Int)] w fun e w' => ∃ g, e = .returned (.slice (some ⟨g, 0, none⟩) n n) ∧ w'.heap[g]? = some (.cells (List.replicate n (.string Z)).toArray 9) ∧ Below w.heap.size w w' := by
  have cm : ∀ w, Calls Try.prog 35 #[.int .u64 1, .int .u64 (n : Int)] w fun e w' => e = .returned (.tuple #[.int .u64 0, .int .u64 (n : Int)]) ∧ w' = w := fun w => by
    have := Try.bits_Mul 1 n (by omega) (by omega) w
    rw [show 1 * n / 18446744073709551616 = 0 by omega, show 1 * n % 18446744073709551616 = n by omega] at this
    exact this
  have e1 : IntKind.u64.wrap (n : Int) = (n : Int) := by rw [IntKind.wrap_u64]; omega
  have e2 : IntKind.i64.wrap (n : Int) = (n : Int) := by rw [IntKind.wrap_i64]; omega
  have e0 : decide ((n : Int) < 0) = false := by simp
  have e3 : decide ((9223372036854775807 : Int) < (n : Int)) = false := by rw [decide_eq_false_iff_not]; omega
  obtain ⟨i0, hi, hz0, hz1, hz2⟩ := info_parts info_str
  go_enter Try.func18, Try.ntmps18
  go_wp2_with fail
  go_at_call 35; refine (cm _).mono ?_; rintro e w1 ⟨rfl, rfl⟩
  go_wp2_with (refine wpList_make_full _ rfl _ _ 22 rfl w1.heap.size 9 i0 (.string ⟨#[]⟩) 1 Try.underlying22 hi hz0 hz1 .i64 .i64 (n : Int) (n : Int) n rfl rfl rfl rfl ?b2 ?b3 (Nat.le_refl _) ?_)
  case b2 => rw [hz2]; omega
  case b3 => unfold maxLen; omega
  rintro w2 hown hgr
  have hB2 : Below w1.heap.size w1 w2 := below_of hgr
  have hg2 : w2.heap[w1.heap.size]? = some (.cells (rowK Z n 0).toArray 9) := by
    have ho : w2.ownsRow w1.heap.size 9 1 (.slice (some ⟨w1.heap.size, 0, none⟩) n n) n (List.replicate n (.string ⟨#[]⟩)) := by
      rw [← toList_madeCells_one]; exact hown
    rcases ho.2 with ⟨e, _⟩ | ⟨g', cap', cur, e, _, hgb, _, _, hsz, htk⟩
    · cases e
    · injection e with e1 e2 e3
      injection e1 with e1
      injection e1 with e1
      subst e1; subst e3
      rw [hgb]
      have : cur = (rowK Z n 0).toArray := by
        apply Array.ext'
        rw [Nat.mul_one] at hsz htk
        rw [List.take_of_length_le (by rw [Array.length_toList]; omega)] at htk
        rw [htk]; simp [rowK]
      rw [this]
  have hz2 : w2.cell? ⟨b, 0, none⟩ = some (.string Z) := (hB2.cell (p := ⟨b, 0, none⟩) hb).trans hz
  have hr1 : ∀ ty, (Builtin.copy_ #[22, 22] ty #[.slice (some ⟨w1.heap.size, 0, none⟩) n n, .slice (some ⟨b, 0, none⟩) 1 1]).run Try.prog w2 = .ok (.int .i64 1) (w2.setRow w1.heap.size (rowK Z n 1).toArray) := fun ty => by
    have h := run_copy_row (P := Try.prog) w2 22 22 ty 9 w1.heap.size 0 n n ⟨b, 0, none⟩ 1 1 (rowK Z n 0).toArray 9 [.string Z] Try.underlying22 (by kernel_rfl) hg2 (show 1 = Nat.min 1 n from (Nat.min_eq_left hn).symm) (fun j v hj => by
      match j, hj with
      | 0, hj => simp at hj; subst hj; rw [addr_add]; exact hz2) (by simp [rowK_len Z n 0 (by omega)]; omega) (fun v hv => by simp at hv; rw [hv]; rfl)
    rw [h]
    have e := rowK_next Z n 0 1 (by omega)
    simp only [List.replicate_one, Nat.zero_add] at e
    rw [← e]
    rfl
  obtain ⟨W3, hW3⟩ : ∃ W3, W3 = w2.setRow w1.heap.size (rowK Z n 1).toArray := ⟨_, rfl⟩
  have hg3 : W3.heap[w1.heap.size]? = some (.cells (rowK Z n 1).toArray 9) := by rw [hW3]; exact setRow_same w2 w1.heap.size _ _ hg2
  have hB3 : Below w1.heap.size w1 W3 := by rw [hW3]; exact below_setRow hB2 (Nat.le_refl _) _
  rw [← hW3] at hr1
  clear hown hgr hW3 hg2
  go_wp2_with fail
  go_loopw [8] (fun p wr => ∃ k : Nat, 1 ≤ k ∧ k ≤ n ∧ p = .int .i64 k ∧ wr.heap[w1.heap.size]? = some (.cells (rowK Z n k).toArray 9) ∧ Below w1.heap.size w1 wr) (fun p _ => n - (intOf p).toNat)
  case atStart => exact ⟨1, by omega, hn, rfl, hg3, hB3⟩
  case round =>
    obtain ⟨k, hk1, hk, rfl, hg, hB⟩ := hrel
    by_cases hlt : k < n
    · obtain ⟨c, hc⟩ : ∃ c, c = min k (n - k) := ⟨_, rfl⟩
      have hr2 := copy_run wr.drew w1.heap.size n k c Z hg hk hc
      have hc1 : 1 ≤ c := by omega
      have hc2 : c ≤ n - k := by omega
      have hne : ¬ n = k := by omega
      have HC : Hid (c = min k (n - k)) := hc
      clear hc
      go_wp2_with fail
      go_region
      go_wp2
      go_roundw
      case rel => exact ⟨k + c, by omega, by omega, by go_num, setRow_same wr.drew _ _ _ hg, below_setRow hB.drew (Nat.le_refl _) _⟩
      case measure => simp [intOf]; omega
    · obtain rfl : k = n := by omega
      go_wp2
      go_ret
      exact ⟨_, rfl, by rw [hg]; simp [rowK], hB⟩
end Go.Proofs.Ytoigogjklhahkaa.Disk
