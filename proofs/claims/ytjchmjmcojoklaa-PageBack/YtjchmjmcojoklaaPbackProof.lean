/- For every tag, data and further sectors: spoorlaw05.PageBack returns true, and changes nothing that was there. No condition. -/
import Derived.Test.YtjchmjmcojoklaaRows
import Derived.Test.YtjchmjmcojoklaaPageBackM
import Derived.ProofKit
import Derived.OpenShut
import Derived.ShutString
import Derived.SizedLaws
import Derived.Deep.Strs
set_option linter.unusedVariables false
namespace Go.Proofs.Ytjchmjmcojoklaa
namespace pageBack
open Go.ChangeShapes Go.WideShapes Go.ChangeAt Go.RowKit Go.Shelf
open Go.ChangeMaps (open_string shut_string)
open Go.Proofs.Ytjchmjmcojoklaa.Page
attribute [-go_sem] Builtin.append_

theorem own : ownKnob Try.prog.godebug = none := by kernel_rfl
theorem laidOut : laidOutB Try.prog = true := by kernel_rfl

theorem hs_src {W : World} {o : Option Addr} {m c : Nat} {zs : List (List UInt8)} (h : HasStrs W (.slice o m c) zs) : m = zs.length ∧ (zs = [] ∨ ∃ b i, o = some ⟨b, i, none⟩ ∧ ∀ j u, (zs.map strV)[j]? = some u → W.cell? ((⟨b, i, none⟩ : Addr).add j) = some u) := by
  obtain ⟨o', c', e, g⟩ := h
  cases e
  refine ⟨rfl, ?_⟩
  cases zs with
  | nil => exact .inl rfl
  | cons z zs =>
    obtain ⟨b, i, e0, _, _⟩ := g 0 (by simp)
    refine .inr ⟨b, i, e0, fun j u hj => ?_⟩
    rw [List.getElem?_map] at hj
    by_cases hlt : j < (z :: zs).length
    · obtain ⟨b', i', e1, q, _⟩ := g j hlt
      rw [e0] at e1
      cases e1
      rw [List.getElem?_eq_getElem hlt] at hj
      rw [addr_add, q]
      exact hj
    · rw [List.getElem?_eq_none (by omega)] at hj; cases hj
/-- append of a row of texts -/
theorem app_strs {W : World} {n₀ k : Nat} {v u : Value} {xs : List Value} {zs : List (List UInt8)} (hown : W.ownsRow n₀ 9 1 v k xs) (hsrc : HasStrs W u zs) (hz : ∀ l c, u = .slice none l c → c = 0) (hb : (k + zs.length) * 16 ≤ 140737488355328) (hn : n₀ ≤ W.heap.size) :
    ∃ v' w3, (∀ ty, (Builtin.append_ #[31, 31] ty #[v, u]).run Try.prog W = .ok v' w3) ∧ w3.ownsRow n₀ 9 1 v' (k + zs.length) (xs ++ zs.map strV) ∧ W.grownBy w3 v.ownBlock := by
  obtain ⟨i0, hi0, hz0, hz1, hz2⟩ := info_parts info_str
  obtain ⟨o, c, rfl, g⟩ := hsrc
  have hsrc : HasStrs W (.slice o zs.length c) zs := ⟨o, c, rfl, g⟩
  cases o with
  | none =>
    have h0 : zs = [] := by
      cases zs with
      | nil => rfl
      | cons z zs => obtain ⟨b, i, e, _⟩ := g 0 (by simp); cases e
    subst h0
    obtain rfl := hz _ _ rfl
    exact ⟨v, W, fun ty => run_append_owned_none (P := Try.prog) W n₀ 31 ty 9 i0 1 Try.underlying31 hi0 v k xs hown, by simpa using hown, World.grownBy.refl _ _⟩
  | some a =>
    have h := run_append_own (P := Try.prog) W n₀ 31 0 9 i0 (.string ⟨#[]⟩) 1 16 Try.underlying31 hi0 hz0 hz1 hz2 rfl (by decide) v k xs hown a zs.length c (zs.map strV) (by simp)
      (fun j x hj => by
        rcases (hs_src hsrc).2 with h0 | ⟨b, i, e, h1⟩
        · rw [h0] at hj; simp at hj
        · cases e; exact h1 j x hj) (by intro x hx; obtain ⟨z, _, rfl⟩ := List.mem_map.1 hx; rfl) (by unfold maxLen; omega) hb hn
    obtain ⟨v', w3, hrun, k1, k2, _⟩ := h
    exact ⟨v', w3, fun ty => hrun, k1, k2⟩
theorem own_nil {W : World} {B k : Nat} {v : Value} {xs : List Value} (h : W.ownsRow B 9 1 v k xs) (l c : Nat) (e : v = .slice none l c) : c = 0 := by
  rcases h.2 with ⟨rfl, _⟩ | ⟨g, cap, cur, rfl, _⟩
  · cases e; rfl
  · cases e
theorem empty_own (w : World) : (w.alloc (.cells #[] 9)).ownsRow w.heap.size 9 1 (.slice (some ⟨w.heap.size, 0, none⟩) 0 0) 0 [] :=
  World.ownsRow_made (base := w.heap.size) (e := 9) (size := 1) w #[] 0 (Nat.le_refl _) (by decide) (by simp)
set_option maxHeartbeats 2000000 in
theorem bad (t : Nat) (d : List UInt8) (m : Value) (w : World) (ht : t < 18446744073709551616) (hd : d.length ≤ 140737488351232) (hbad : (splitR t d).2 ≠ 0) (hnil : (splitR t d).1 = []) :
    Calls Try.prog 5 #[.int .u64 (t : Int), .string ⟨d.toArray⟩, m] w fun e w' => e = .returned (.bool true) ∧ Below w.heap.size w w' := by
  have hv := lives_any
  have c1 := fun w => split_any t d w ht (by omega)
  unfold RowsIs at c1
  rw [hnil] at c1
  obtain ⟨y, hy⟩ : ∃ y, y = (splitR t d).2 := ⟨_, rfl⟩
  rw [← hy] at c1 hbad
  have hy2 : (y != 0) = true := by simpa using hbad
  clear hy hnil
  go_enter Try.func5, Try.ntmps5
  go_wp2_with fail
  go_at_call 14; refine (hv _).mono ?_; rintro e w1 ⟨rfl, hW⟩
  go_wp2_with fail
  go_at_call 15; refine (c1 _).mono ?_; rintro e w2 ⟨v, rfl, hown, hb2⟩
  have hW := below2 hW hb2
  obtain ⟨o, c, rfl⟩ : ∃ o c, v = .slice o 0 c := by
    rcases hown.2 with ⟨rfl, _⟩ | ⟨g, cap, cur, rfl, _⟩
    · exact ⟨_, _, rfl⟩
    · exact ⟨_, _, rfl⟩
  go_wp2
  go_ret
  exact ⟨rfl, hW⟩
set_option maxHeartbeats 4000000 in
theorem good (t : Nat) (d : List UInt8) (a : Option Addr) (len cap : Nat) (zs : List (List UInt8)) (w : World) (h0 : 1 ≤ t) (h1 : t ≤ 4611686018427387904) (hd : d.length ≤ 14208) (hm : IsStrsS w a len cap zs) :
    Calls Try.prog 5 #[.int .u64 (t : Int), .string ⟨d.toArray⟩, .slice a len cap] w fun e w' => e = .returned (.bool true) ∧ Below w.heap.size w w' := by
  obtain ⟨hh, hlen, hcap, hcm, hzl, h16, hnil⟩ := hm
  have hv := lives_any
  have c1 := fun w => split_any t d w (by omega) (by omega)
  rw [splitR, if_neg (by omega), if_pos hd] at c1
  unfold RowsIs at c1
  simp only at c1
  have hcnt : cntL d ≤ 128 := by unfold cntL; omega
  obtain ⟨n, hn⟩ : ∃ n, n = cntL d := ⟨_, rfl⟩
  obtain ⟨L, hL⟩ : ∃ L, L = splitL t d := ⟨_, rfl⟩
  have hLn : L.length = n := by rw [hL, hn]; exact splitL_len t d
  have HL : Hid (L = splitL t d ∧ n = cntL d) := ⟨hL, hn⟩
  have HLa : Hid (∀ k (h : k < L.length), L[k] = pageL (t + k) (pieceL d k)) := by
    intro k h
    have e := splitL_at t d k (by rw [← hL]; exact h)
    rw [← e]
    congr 1
  rw [← hL, hLn] at c1
  have hn128 : n ≤ 128 := by omega
  have HH : Hid (HasStrs w (.slice a len cap) zs) := hh
  have HZ : Hid (len = zs.length ∧ (∀ z ∈ zs, z.length ≤ 9223372036854775807) ∧ len * 16 ≤ 140737488351232 ∧ (a = none → cap = 0)) := ⟨hlen, hzl, h16, hnil⟩
  have hli : len ≤ 9223372036854775807 := by omega
  have e1 : IntKind.u64.wrap (n : Int) = (n : Int) := by rw [IntKind.wrap_u64]; omega
  have e2 : IntKind.u64.wrap ((t : Int) + (n : Int)) = (t : Int) + (n : Int) := by rw [IntKind.wrap_u64]; omega
  have hti : (t : Int) ≤ 4611686018427387904 := by omega
  have HD : Hid (d.length ≤ 14208 ∧ 1 ≤ t ∧ t ≤ 4611686018427387904 ∧ L.length = n) := ⟨hd, h0, h1, hLn⟩
  clear hh hlen hzl h16 hnil hn hL hcnt hd hLn h1 hcm hcap
  generalize hS : (⟨d.toArray⟩ : ByteArray) = S at c1 ⊢
  have HS : Hid ((⟨d.toArray⟩ : ByteArray) = S) := hS
  clear hS
  go_enter Try.func5, Try.ntmps5
  go_wp2_with fail
  go_at_call 14; refine (hv _).mono ?_; rintro e w1 ⟨rfl, hW⟩
  go_wp2_with fail
  go_at_call 15; refine (c1 _).mono ?_; rintro e w2 ⟨v, rfl, hown, hb2⟩
  have hW := below2 hW hb2
  have HO : Hid (w2.ownsRow w1.heap.size 9 1 v n (L.map strV)) := hown
  obtain ⟨o, c, rfl⟩ : ∃ o c, v = .slice o n c := by
    rcases hown.2 with ⟨rfl, h0⟩ | ⟨g, cap, cur, rfl, _⟩
    · exact ⟨none, 0, by rw [h0]⟩
    · exact ⟨_, _, rfl⟩
  have HLo : Hid (HasStrs w2 (.slice o n c) L) := has_own (by rw [HD.out.2.2.2]; exact hown)
  clear hown c1 hv hb2
  go_wp2_with fail
  go_loopw [34] (fun i wr => ∃ k : Nat, k ≤ len ∧ i = .int .i64 k ∧ Below w2.heap.size w2 wr ∧ Hid (∀ j (h : j < zs.length), j < k → tagL zs[j] ≠ (t + n, 0))) (fun i _ => len - (intOf i).toNat)
  case atStart => exact ⟨0, by omega, rfl, Below.refl _ _, fun j _ hj => by omega⟩
  case round =>
    obtain ⟨k, hk, rfl, hB, HK⟩ := hrel
    have hWr := below2 hW hB
    by_cases hlt : k < len
    · have hkz : k < zs.length := by rw [← HZ.out.1]; exact hlt
      obtain ⟨o', c', e', gg⟩ := HH.out
      injection e' with e1' e2' e3'
      subst e1'; subst e3'
      obtain ⟨b, i, ea, q1, l1⟩ := gg k hkz
      subst ea
      clear gg e2'
      have r1 := (hWr.cell (p := ⟨b, i + k, none⟩) l1).trans q1
      have hzk := HZ.out.2.1 _ (List.getElem_mem hkz)
      have HE : Hid (∃ h : k < zs.length, zs[k] = zs[k]) := ⟨hkz, rfl⟩
      obtain ⟨z, hz⟩ : ∃ z, z = zs[k] := ⟨_, rfl⟩
      rw [← hz] at r1 hzk
      have HZk : Hid (∀ h : k < zs.length, zs[k] = z) := fun h => hz.symm
      unfold strV at r1
      clear q1 hz HE
      have ct := fun w => tag_any z w hzk
      unfold NumIs at ct
      obtain ⟨⟨m, y⟩, hg⟩ : ∃ g, tagL z = g := ⟨_, rfl⟩
      rw [hg] at ct
      simp only at ct
      by_cases hy : y = 0
      · subst hy
        by_cases hmn : m = t + n
        · have hmi : ((m : Int) == (t : Int) + (n : Int)) = true := by rw [beq_iff_eq]; omega
          have hmi2 : (m : Int) = (t : Int) + (n : Int) := by omega
          clear hg
          go_wp2_with fail
          go_at_call 12; refine (ct _).mono ?_; rintro e w3 ⟨rfl, hb3⟩
          have hWr := below2 hWr hb3
          clear ct
          go_wp2
          go_ret
          exact ⟨rfl, hWr⟩
        · have hmi : ((m : Int) == (t : Int) + (n : Int)) = false := by rw [beq_eq_false_iff_ne]; omega
          have hmi2 : ¬ ((m : Int) = (t : Int) + (n : Int)) := by omega
          have HK' : Hid (∀ j (h : j < zs.length), j < k + 1 → tagL zs[j] ≠ (t + n, 0)) := by
            intro j h hj
            by_cases hjk : j = k
            · subst hjk
              rw [HZk.out h, hg]
              intro hc; injection hc with hc _; exact hmn hc
            · exact HK.out j h (by omega)
          clear hg
          go_wp2_with fail
          go_at_call 12; refine (ct _).mono ?_; rintro e w3 ⟨rfl, hb3⟩
          have hB := below2 hB hb3
          clear ct
          go_wp2
          go_roundw
          case rel => exact ⟨k + 1, by omega, by go_num, hB, HK'⟩
          case measure => simp [intOf]; omega
      · have hy2 : (y == 0) = false := beq_eq_false_iff_ne.2 hy
        have HK' : Hid (∀ j (h : j < zs.length), j < k + 1 → tagL zs[j] ≠ (t + n, 0)) := by
          intro j h hj
          by_cases hjk : j = k
          · subst hjk
            rw [HZk.out h, hg]
            intro hc; injection hc with _ hc; exact hy hc
          · exact HK.out j h (by omega)
        clear hg
        go_wp2_with fail
        go_at_call 12; refine (ct _).mono ?_; rintro e w3 ⟨rfl, hb3⟩
        have hB := below2 hB hb3
        clear ct
        go_wp2
        go_roundw
        case rel => exact ⟨k + 1, by omega, by go_num, hB, HK'⟩
        case measure => simp [intOf]; omega
    · obtain rfl : k = len := by omega
      have HK2 : Hid (∀ s ∈ zs, tagL s ≠ (t + n, 0)) := by
        intro s hs
        obtain ⟨j, hj, rfl⟩ := List.getElem_of_mem hs
        exact HK.out j hj (by rw [HZ.out.1]; exact hj)
      clear HK
      obtain ⟨W, hWW⟩ : ∃ W, W = wr := ⟨_, rfl⟩
      subst hWW
      clear hWr
      go_wp2_with fail
      go_loopw [57] (fun i wr => ∃ j : Nat, j ≤ n ∧ i = .int .i64 j ∧ Below w2.heap.size w2 wr) (fun i _ => n - (intOf i).toNat)
      case atStart => exact ⟨0, by omega, rfl, hB⟩
      case round =>
        obtain ⟨j, hj, rfl, hB2⟩ := hrel
        by_cases hjl : j < n
        · have hjz : j < L.length := by rw [HD.out.2.2.2]; exact hjl
          obtain ⟨o', c', e', gg⟩ := HLo.out
          injection e' with e1' e2' e3'
          subst e1'; subst e3'
          obtain ⟨b, i, ea, q1, l1⟩ := gg j hjz
          subst ea
          clear gg e2'
          have r1 := (hB2.cell (p := ⟨b, i + j, none⟩) l1).trans q1
          rw [HLa.out j hjz] at r1
          have ct := fun w => tag_any (pageL (t + j) (pieceL d j)) w (by rw [pageL_len _ _ (pieceL_len d j)]; decide)
          rw [tagL_page (by omega) (by have := HD.out.2.2.1; omega) (pieceL_len d j)] at ct
          unfold NumIs at ct
          simp only at ct
          unfold strV at r1
          clear q1
          generalize (⟨(pageL (t + j) (pieceL d j)).toArray⟩ : ByteArray) = Pg at r1 ct
          have e3 : IntKind.u64.wrap (j : Int) = (j : Int) := by rw [IntKind.wrap_u64]; omega
          have e4 : IntKind.u64.wrap ((t : Int) + (j : Int)) = (t : Int) + (j : Int) := by rw [IntKind.wrap_u64]; omega
          rw [show ((t + j : Nat) : Int) = (t : Int) + (j : Int) by omega] at ct
          go_wp2_with fail
          go_at_call 12; refine (ct _).mono ?_; rintro e w3 ⟨rfl, hb3⟩
          have hB2 := below2 hB2 hb3
          clear ct
          go_wp2
          go_roundw
          case rel => exact ⟨j + 1, by omega, by go_num, hB2⟩
          case measure => simp [intOf]; omega
        · obtain rfl : j = n := by omega
          have hLo := HLo.out.keep hB2
          have hm2 := (HH.out.keep hW).keep hB2
          have hB3 : Below wr.heap.size wr (wr.alloc (.cells #[] 9)) := (Below.refl _ wr).alloc (Nat.le_refl _) _
          obtain ⟨v1, X1, hr1, ho1, hg1⟩ := app_strs (empty_own wr) (hLo.keep hB3) (fun l c e => own_nil HO.out l c e) (by rw [HD.out.2.2.2]; omega) (by simp)
          have B1 : Below wr.heap.size wr X1 := hB3.grown hg1 (by simp) (fun k e => by simp [Value.ownBlock] at e; omega)
          rw [Nat.zero_add, List.nil_append] at ho1
          have hzs : zs.length * 16 ≤ 140737488351232 := by have := HZ.out; rw [← this.1]; exact this.2.2.1
          obtain ⟨v2, X2, hr2, ho2, hg2⟩ := app_strs ho1 (hm2.keep B1) (fun l c e => by injection e with e1 _ e3; rw [← e3]; exact HZ.out.2.2.2 e1) (by rw [HD.out.2.2.2]; omega) B1.size
          have B2 : Below wr.heap.size wr X2 := B1.grown hg2 B1.size (fun k e => by
            rcases ho1.2 with ⟨rfl, _⟩ | ⟨g, cap, cur, rfl, hg, _⟩
            · simp [Value.ownBlock] at e
            · simp [Value.ownBlock] at e; omega)
          rw [← List.map_append, ← List.length_append] at ho2
          have hfin := has_own ho2
          have hJ := split_join t d zs HD.out.2.1 HD.out.2.2.1 HD.out.1 (by rw [← HL.out.2]; exact HK2.out)
          rw [← HL.out.1, ← HL.out.2] at hJ
          have cj := join_any v2 (L ++ zs) t X2 hfin (by have := HD.out.2.2.1; omega) (by rw [List.length_append, HD.out.2.2.2]; omega) (by
            intro z hz
            rcases List.mem_append.1 hz with hz | hz
            · obtain ⟨q, hq, rfl⟩ := List.getElem_of_mem hz
              rw [HLa.out q hq, pageL_len _ _ (pieceL_len d q)]; decide
            · exact HZ.out.2.1 z hz) (by rw [hJ]; have := HD.out.1; simp only; omega)
          rw [hJ, HS.out] at cj
          simp only at cj
          have hWf := below2 (below2 hW hB2) B2
          clear hLo hm2 hg1 hg2 ho1 ho2 hfin hJ B1 B2 hB3 hzs
          go_wp2_with fail
          go_at_call 17; refine cj.mono ?_; rintro e w5 ⟨rfl, hb5⟩
          have hWf := below2 hWf hb5
          clear cj hr1 hr2
          go_wp2
          go_ret
          exact ⟨rfl, hWf⟩
theorem walk (a0 : Int) (a1 : ByteArray) (a2 : Option Addr) (len2 cap2 : Nat) (z2 : List (List UInt8)) (w : World) (b0 : 0 ≤ a0 ∧ a0 ≤ 18446744073709551615) (b1 : a1.size ≤ 140737488351232) (b2 : IsStrsS w a2 len2 cap2 z2) :
    Calls Try.prog 5 #[.int .u64 a0, .string a1, .slice a2 len2 cap2] w fun e w' => e = .returned (.bool true) ∧ Below w.heap.size w w' := by
  obtain ⟨t, rfl⟩ := Int.eq_ofNat_of_zero_le b0.1
  obtain ⟨d, rfl, hd⟩ := str_list a1
  have ht : t < 18446744073709551616 := by omega
  by_cases h : t = 0 ∨ 4611686018427387904 < t
  · have e : splitR t d = ([], 1) := by rw [splitR, if_pos h]
    exact bad t d _ w ht (by omega) (by rw [e]; decide) (by rw [e])
  · by_cases hl : d.length ≤ 14208
    · exact good t d a2 len2 cap2 z2 w (by omega) (by omega) hl b2
    · have e : splitR t d = ([], 11) := by rw [splitR, if_neg h, if_neg hl]
      exact bad t d _ w ht (by omega) (by rw [e]; decide) (by rw [e])

set_option maxRecDepth 100000 in
theorem lifted (os : Os) (started : os.Started) (H : Type) (enc : TypeId × Value → H) :
    ReturnsInHanded {} Try.checked os 5 .any (Rows.pageBackSpec.pre6 enc Try.prog Try.f5 Rows.pageBackRow.domain false) (Rows.pageBackSpec.post enc Try.prog Try.f5 false true false false) := by
  refine returnsInHanded_of_change_sized (C := Try.checked) own started (by kernel_rfl) Try.func5
    (ChangeSpec.witness6 (enc := enc) (C := Try.checked) false ⟨#[], #[.int .u64 0, .string ByteArray.empty, .slice none 0 0], []⟩ 8 (by kernel_rfl) (by kernel_rfl) (by kernel_rfl) (by kernel_rfl)) ?_
  intro W base args ds gs before hval0 hW _ hsz0 _
  have hsz : (DataW.weightsEach Try.prog (Try.f5.params.toList ++ Rows.pageBackSpec.plain.varTypes Try.prog) (ds ++ gs)).all (· ≤ reachBytes) = true := hsz0
  clear hsz0
  have hval : ∀ (j : Nat) t v, Try.f5.params[j]? = some t → args[j]? = some v → Value.okWide Try.prog W .any base t v := hval0
  have hW' := hW
  obtain ⟨p, q, hA0, hV, rfl, hfz, hnd⟩ := hW
  have hA : DataW.TrodAll enc Try.prog W 0 (fun _ => true) true Try.f5.params.toList args.toList ds p := hA0
  rw [Try.params5] at hA hval hsz
  obtain ⟨v0, vs0, d0, ds0, p0, q0, hargs, rfl, rfl, h0, r0⟩ := trodAll_cons hA
  obtain ⟨v1, vs1, d1, ds1, p1, q1, rfl, rfl, rfl, h1, r1⟩ := trodAll_cons r0
  obtain ⟨v2, vs2, d2, ds2, p2, q2, rfl, rfl, rfl, h2, r2⟩ := trodAll_cons r1
  obtain ⟨rfl, rfl, rfl⟩ := trodAll_nil r2
  obtain rfl : args = #[v0, v1, v2] := by cases args; simp_all
  obtain ⟨rfl, rfl⟩ := trodVars_none hV
  obtain ⟨a0, rfl, rfl, rfl, w0⟩ := open_int Try.underlying22 (hval 0 22 v0 rfl rfl) h0
  have b0 : 0 ≤ a0 ∧ a0 ≤ 18446744073709551615 := by simpa [Lit.wf, IntKind.min, IntKind.max, IntKind.signed, IntKind.bits] using w0
  obtain ⟨a1, rfl, rfl, rfl, w1⟩ := open_string Try.underlying9 (hval 1 9 v1 rfl rfl) h1
  have b1 : a1.size ≤ 140737488351232 := by
    have := sized_string hsz (j := 1) (t := 9) rfl rfl
    simpa [reachBytes] using this
  obtain ⟨a2, len2, cap2, rfl⟩ := okWide_slice Try.underlying31 (hval 2 31 v2 rfl rfl)
  have k2 := h2
  have lt2 : ∀ x ∈ p2, x.block < W.heap.size := by obtain ⟨m, hm⟩ := k2; exact DataW.trod_lt m _ _ _ hm
  obtain ⟨z2, b2⟩ : ∃ zs, IsStrsS W a2 len2 cap2 zs := by
    obtain ⟨fuel, hf⟩ := h2
    rcases Go.Deep.open_strs Try.underlying31 Try.underlying9 (by kernel_rfl) hf with ⟨hcs, _⟩ | ⟨x, l, c, m, Sx, hcs, _, hl, hm, hmm, hx, hr⟩
    · simp [Value.cells] at hcs
      obtain ⟨rfl, rfl, rfl⟩ := hcs
      exact ⟨[], isStrsS_nil W⟩
    · simp [Value.cells] at hcs
      obtain ⟨rfl, rfl, rfl⟩ := hcs
      have hs := sized_slice hsz (j := 2) (t := 31) (e := 9) rfl (congrArg some (Prod.mk.inj hx).1) Try.underlying31
      rw [show Try.prog.bytesOf 9 = 16 by kernel_rfl] at hs
      exact ⟨_, isStrsS_of hl hm (fun i hi => hr i (by rw [hmm]; split <;> omega)) (by simpa [reachBytes] using Nat.le_trans (Nat.mul_le_mul_right 16 (Nat.le_add_right _ _)) hs)⟩
  clear hA0 hval0
  refine (walk a0 a1 a2 len2 cap2 z2 W b0 b1 b2).mono fun e W' ⟨he, bel⟩ => ?_
  subst he
  exact ⟨_, rfl, _, _, _, [], _, [], hW', trodAll_mk1 (shut_bool Try.underlying4 _), (trodAll_cons_mk (shut_int Try.underlying22 w0) (trodAll_cons_mk (shut_string Try.underlying9 w1) (trodAll_cons_mk (Below.trod laidOut (by kernel_rfl) (of_decide_eq_true (by kernel_rfl)) k2 bel lt2) trodAll_mk0))), rfl, bel.frame _, fun h => by cases h⟩

theorem over : Rows.pageBackRow.holds Try.pinned (OpenSpec.ofChange Rows.pageBackSpec) :=
  OpenClaim.holds_of_wide 5 Try.f5 rfl rfl rfl rfl rfl rfl rfl ⟨rfl, rfl, rfl, rfl, rfl⟩ rfl rfl rfl rfl rfl (by kernel_rfl) Try.func5 (by kernel_rfl)
    (of_decide_eq_true (by kernel_rfl)) (by unfold Func.isWrapper; first | (rw [if_pos (by decide +kernel)]; kernel_rfl) | (rw [if_neg (by decide +kernel)]; exact ⟨rfl, rfl⟩))
    (fun os started H enc _ => lifted os started H enc)
end pageBack
theorem pback_holds : Rows.PageBackSaid := pageBack.over
#print axioms pback_holds
end Go.Proofs.Ytjchmjmcojoklaa
