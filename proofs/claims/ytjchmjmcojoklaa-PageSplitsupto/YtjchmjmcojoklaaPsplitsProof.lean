/- For every tag, data and row of sectors, which together hold at most 1,048,576 values and letters (the second form's bound): spoorlaw05.PageSplits returns true, and changes nothing that was there. -/
import Derived.Test.YtjchmjmcojoklaaRows
import Derived.Test.YtjchmjmcojoklaaPageRef3
import Derived.Test.YtjchmjmcojoklaaQuietBelow
import Derived.ProofKit
import Derived.OpenShut
import Derived.ShutString
import Derived.SizedLaws
import Derived.JoinedCond
import Derived.Deep.CondSized
import Derived.Deep.Strs
set_option linter.unusedVariables false
namespace Go.Proofs.Ytjchmjmcojoklaa
namespace pageSplits
open Go.ChangeShapes Go.WideShapes Go.ChangeAt Go.RowKit Go.Shelf
open Go.ChangeMaps (open_string shut_string)
open Go.Proofs.Ytjchmjmcojoklaa.Page

theorem own : ownKnob Try.prog.godebug = none := by kernel_rfl
theorem laidOut : laidOutB Try.prog = true := by kernel_rfl

/-- what the bound gives: so many elements at the most -/
theorem bulk_pos {H : Type} (d : DataW H) : 1 ≤ Rows.uptoBulk d := by
  cases d with
  | lit l => cases l <;> simp [Rows.uptoBulk]
  | _ => simp [Rows.uptoBulk]
theorem bulk_many {H : Type} (l : List (DataW H)) : l.length ≤ Rows.uptoBulkAll l := by
  induction l with
  | nil => exact Nat.zero_le _
  | cons d r ih =>
    have h1 := bulk_pos d
    rw [Rows.uptoBulkAll, List.length_cons]
    omega
theorem bulk_at {H : Type} : ∀ (l : List (DataW H)) (j : Nat) (d : DataW H), l[j]? = some d → Rows.uptoBulk d ≤ Rows.uptoBulkAll l
  | [], j, d, h => by simp at h
  | x :: r, 0, d, h => by
    obtain rfl : x = d := by simpa using h
    rw [Rows.uptoBulkAll]; omega
  | x :: r, j + 1, d, h => by
    have := bulk_at r j d (by simpa using h)
    rw [Rows.uptoBulkAll]; omega
theorem bulk_row {H : Type} {l : List (DataW H)} (hk : Rows.uptoSmall H l = true) {j : Nat} {elems spare : List (DataW H)} (h : l[j]? = some (.slice elems spare)) : elems.length ≤ 1048576 := by
  have h1 := bulk_at l j _ h
  have h2 := bulk_many elems
  have h3 : Rows.uptoBulkAll l ≤ 1048576 := of_decide_eq_true hk
  simp only [Rows.uptoBulk] at h1
  omega

set_option maxHeartbeats 4000000 in
theorem walk0 (t : Nat) (d : List UInt8) (v : Value) (zs : List (List UInt8)) (w : World) (ht : t < 18446744073709551616) (hd : d.length ≤ 140737488351232) (hh : HasStrs w v zs) (hzl : ∀ z ∈ zs, z.length ≤ 9223372036854775807) (hzn : zs.length ≤ 1048576) :
    Calls Try.prog 4 #[.int .u64 (t : Int), .string ⟨d.toArray⟩, v] w fun e w' => e = .returned (.bool true) ∧ Below w.heap.size w w' := by
  have hv := lives_any
  have c1 := fun w => split_any t d w ht (by omega)
  have c2 := fun w => rsplit_any t d w ht (by omega)
  have hjl := joinL_le zs t
  have c3 := fun w h => join_any v zs t w h ht (by omega) hzl (by omega)
  have c4 := fun w h => rjoin_any v zs t w h ht (by omega) hzl (by omega)
  unfold RowsIs at c1 c2
  obtain ⟨⟨L, y⟩, hL⟩ : ∃ r, splitR t d = r := ⟨_, rfl⟩
  have hLn : L.length ≤ 1000000000 := by
    have e : L = (splitR t d).1 := by rw [hL]
    rw [e, splitR]
    split
    · simp
    · split
      · rw [splitL_len, cntL]; omega
      · simp
  rw [hL] at c1 c2
  simp only at c1 c2
  obtain ⟨⟨J, n⟩, hJ⟩ : ∃ r, joinL zs t = r := ⟨_, rfl⟩
  rw [hJ] at c3 c4
  simp only at c3 c4
  have HH : Hid (HasStrs w v zs) := hh
  clear hjl hL hJ hh
  generalize (⟨J.toArray⟩ : ByteArray) = JS at c3 c4
  generalize (⟨d.toArray⟩ : ByteArray) = D at c1 c2 ⊢
  go_enter Try.func4, Try.ntmps4
  go_wp2_with fail
  go_at_call 15; refine (c1 _).mono ?_; rintro e w1 ⟨v1, rfl, o1, hW⟩
  have h1 := has_own o1
  go_wp2_with fail
  go_at_call 16; refine (c2 _).mono ?_; rintro e w2 ⟨v2, rfl, o2, hb⟩
  have h2 := has_own o2
  have h1 := h1.keep hb
  have hW := below2 hW hb
  go_wp2_with fail
  go_at_call 17; refine (c3 _ (HH.out.keep hW)).mono ?_; rintro e w3 ⟨rfl, hb⟩
  have h1 := h1.keep hb
  have h2 := h2.keep hb
  have hW := below2 hW hb
  go_wp2_with fail
  go_at_call 18; refine (c4 _ (HH.out.keep hW)).mono ?_; rintro e w4 ⟨rfl, hb⟩
  have h1 := h1.keep hb
  have h2 := h2.keep hb
  have hW := below2 hW hb
  go_wp2_with fail
  go_at_call 14; refine (hv _).mono ?_; rintro e w5 ⟨rfl, hb⟩
  have h1 := h1.keep hb
  have h2 := h2.keep hb
  have hW := below2 hW hb
  clear c1 c2 c3 c4 hv hb o1 o2
  have c5 := same_any v1 v2 L w5 h1 h2 hLn
  go_wp2_with fail
  go_at_call 19; refine c5.mono ?_; rintro e w6 ⟨rfl, hb⟩
  have hW := below2 hW hb
  clear c5 hb h1 h2
  go_wp2
  go_ret
  exact ⟨rfl, hW⟩
theorem walk (a0 : Int) (a1 : ByteArray) (a2 : Option Addr) (len2 cap2 : Nat) (z2 : List (List UInt8)) (w : World) (b0 : 0 ≤ a0 ∧ a0 ≤ 18446744073709551615) (b1 : a1.size ≤ 140737488351232) (b2 : IsStrsS w a2 len2 cap2 z2 ∧ z2.length ≤ 1048576) :
    Calls Try.prog 4 #[.int .u64 a0, .string a1, .slice a2 len2 cap2] w fun e w' => e = .returned (.bool true) ∧ Below w.heap.size w w' := by
  obtain ⟨t, rfl⟩ := Int.eq_ofNat_of_zero_le b0.1
  obtain ⟨d, rfl, hd⟩ := str_list a1
  exact walk0 t d _ z2 w (by omega) (by omega) b2.1.1 b2.1.2.2.2.2.1 b2.2

set_option maxRecDepth 100000 in
theorem contract (H : Type) (enc : TypeId × Value → H) (W : World) (base : Nat) (args : Array Value) (ds gs : List (DataW H)) (before : List MemPlace)
    (hval0 : ∀ (j : Nat) t v, Try.f4.params[j]? = some t → args[j]? = some v → Value.okWide Try.prog W .any base t v)
    (hW : DataW.Whole enc Try.prog Try.f4.params.toList Rows.pageSplitsSpec.vars false W args.toList ds gs before) (hk : Rows.uptoSmall H (ds ++ gs) = true)
    (hsz0 : (DataW.weightsEach Try.prog (Try.f4.params.toList ++ Rows.pageSplitsSpec.plain.varTypes Try.prog) (ds ++ gs)).all (· ≤ reachBytes) = true) :
    Calls Try.prog 4 args W fun e W' => ∃ v, e = .returned v ∧ Rows.pageSplitsSpec.post enc Try.prog Try.f4 false true false false W args v W' := by
  have hsz : (DataW.weightsEach Try.prog (Try.f4.params.toList ++ Rows.pageSplitsSpec.plain.varTypes Try.prog) (ds ++ gs)).all (· ≤ reachBytes) = true := hsz0
  clear hsz0
  have hval : ∀ (j : Nat) t v, Try.f4.params[j]? = some t → args[j]? = some v → Value.okWide Try.prog W .any base t v := hval0
  have hW' := hW
  obtain ⟨p, q, hA0, hV, rfl, hfz, hnd⟩ := hW
  have hA : DataW.TrodAll enc Try.prog W 0 (fun _ => true) true Try.f4.params.toList args.toList ds p := hA0
  rw [Try.params4] at hA hval hsz
  obtain ⟨v0, vs0, d0, ds0, p0, q0, hargs, rfl, rfl, h0, r0⟩ := trodAll_cons hA
  obtain ⟨v1, vs1, d1, ds1, p1, q1, rfl, rfl, rfl, h1, r1⟩ := trodAll_cons r0
  obtain ⟨v2, vs2, d2, ds2, p2, q2, rfl, rfl, rfl, h2, r2⟩ := trodAll_cons r1
  obtain ⟨rfl, rfl, rfl⟩ := trodAll_nil r2
  obtain rfl : args = #[v0, v1, v2] := by cases args; simp_all
  obtain ⟨rfl, rfl⟩ := trodVars_none hV
  obtain ⟨a0, rfl, rfl, rfl, w0⟩ := open_int Try.underlying22 (hval 0 22 v0 rfl rfl) h0
  have b0 : 0 ≤ a0 ∧ a0 ≤ 18446744073709551615 := by simpa [Lit.wf, IntKind.min, IntKind.max, IntKind.signed, IntKind.bits] using w0
  obtain ⟨a1, rfl, rfl, rfl, w1⟩ := open_string Try.underlying9 (hval 1 9 v1 rfl rfl) h1
  have b1 : a1.size ≤ 140737488351232 := by
    have := sized_string hsz (j := 1) (t := 9) rfl rfl
    simpa [reachBytes] using this
  obtain ⟨a2, len2, cap2, rfl⟩ := okWide_slice Try.underlying31 (hval 2 31 v2 rfl rfl)
  have k2 := h2
  have lt2 : ∀ x ∈ p2, x.block < W.heap.size := by obtain ⟨m, hm⟩ := k2; exact DataW.trod_lt m _ _ _ hm
  obtain ⟨z2, b2⟩ : ∃ zs, IsStrsS W a2 len2 cap2 zs ∧ zs.length ≤ 1048576 := by
    obtain ⟨fuel, hf⟩ := h2
    rcases Go.Deep.open_strs Try.underlying31 Try.underlying9 (by kernel_rfl) hf with ⟨hcs, _⟩ | ⟨x, l, c, m, Sx, hcs, _, hl, hm, hmm, hx, hr⟩
    · simp [Value.cells] at hcs
      obtain ⟨rfl, rfl, rfl⟩ := hcs
      exact ⟨[], isStrsS_nil W, by simp⟩
    · simp [Value.cells] at hcs
      obtain ⟨rfl, rfl, rfl⟩ := hcs
      have hs := sized_slice hsz (j := 2) (t := 31) (e := 9) rfl (congrArg some (Prod.mk.inj hx).1) Try.underlying31
      rw [show Try.prog.bytesOf 9 = 16 by kernel_rfl] at hs
      have hbk := bulk_row hk (j := 2) (congrArg some (Prod.mk.inj hx).1)
      exact ⟨_, isStrsS_of hl hm (fun i hi => hr i (by rw [hmm]; split <;> omega)) (by simpa [reachBytes] using Nat.le_trans (Nat.mul_le_mul_right 16 (Nat.le_add_right _ _)) hs), by simpa using hbk⟩
  clear hA0 hval0
  refine (walk a0 a1 a2 len2 cap2 z2 W b0 b1 b2).mono fun e W' ⟨he, bel⟩ => ?_
  subst he
  exact ⟨_, rfl, _, _, _, [], _, [], hW', trodAll_mk1 (shut_bool Try.underlying4 _), (trodAll_cons_mk (shut_int Try.underlying22 w0) (trodAll_cons_mk (shut_string Try.underlying9 w1) (trodAll_cons_mk (Below.trod laidOut (by kernel_rfl) (of_decide_eq_true (by kernel_rfl)) k2 bel lt2) trodAll_mk0))), rfl, bel.frame _, fun h => by cases h⟩
set_option maxRecDepth 100000 in
theorem lifted (os : Os) (started : os.Started) (H : Type) (enc : TypeId × Value → H) (F : Stop.Interp) :
    ReturnsInHanded {} Try.checked os 4 .any ((Rows.OpenSpec.upto Rows.pageSplitsSpec).pre6 enc Try.prog Try.f4 Rows.pageSplitsUptoRow.domain false) (((Rows.OpenSpec.upto Rows.pageSplitsSpec).at F).post enc Try.prog Try.f4 false true false false) := by
  refine returnsInHanded_of_cond_sized (C := Try.checked) (s := Rows.OpenSpec.upto Rows.pageSplitsSpec) (k := Rows.uptoSmall) rfl own started (by kernel_rfl) Try.func4
    (OpenSpec.witness (enc := enc) (C := Try.checked) (s := Rows.OpenSpec.upto Rows.pageSplitsSpec) (k := Rows.uptoSmall) rfl false ⟨#[], #[.int .u64 0, .string ByteArray.empty, .slice none 0 0], []⟩ 8 (by kernel_rfl) (by kernel_rfl) (by kernel_rfl)
      (x := ([.lit (.int .u64 0), .lit (.string []), .nil], [], [])) (by kernel_rfl) rfl (by kernel_rfl)) ?_
  intro W base args ds gs before hval hW _ hk hsz _
  exact contract H enc W base args ds gs before hval hW hk hsz

theorem over : Rows.pageSplitsUptoRow.holds Try.pinned (Rows.OpenSpec.upto Rows.pageSplitsSpec) :=
  OpenClaim.holds_of_cond 4 Try.f4 rfl rfl rfl rfl rfl rfl rfl ⟨rfl, rfl, rfl, rfl, rfl⟩ rfl rfl rfl rfl rfl (by kernel_rfl) Try.func4 (by kernel_rfl)
    (of_decide_eq_true (by kernel_rfl)) (by unfold Func.isWrapper; first | (rw [if_pos (by decide +kernel)]; kernel_rfl) | (rw [if_neg (by decide +kernel)]; exact ⟨rfl, rfl⟩))
    (fun os started H enc _ F => lifted os started H enc F)
end pageSplits
theorem psplits_holds : Rows.PageSplitsUptoSaid := pageSplits.over
#print axioms psplits_holds
end Go.Proofs.Ytjchmjmcojoklaa
