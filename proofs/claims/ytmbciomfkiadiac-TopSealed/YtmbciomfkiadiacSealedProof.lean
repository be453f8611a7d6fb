/- For every rows of numbers, every place and every byte: spoortop.TopSealed returns true, and changes nothing that was there. No condition. -/
import Derived.Test.YtmbciomfkiadiacRows
import Derived.Test.YtmbciomfkiadiacWalkRowsOf
import Derived.ProofKit
import Derived.OpenShut
import Derived.ShutString
import Derived.SizedLaws
import Derived.ChangeOld
set_option linter.unusedVariables false
namespace Go.Proofs.Ytmbciomfkiadiac
namespace topSealed
open Go.ChangeShapes Go.WideShapes Go.ChangeAt Go.RowKit
open Go.ChangeMaps (open_string shut_string)

theorem own : ownKnob Try.prog.godebug = none := by kernel_rfl
theorem laidOut : laidOutB Try.prog = true := by kernel_rfl
theorem reads_slice {w : World} {v : Value} {ns : List Int} (h : Reads w v ns) : ∃ a cap, v = .slice a ns.length cap := by
  rcases h with ⟨a, cap, rfl, rfl⟩ | ⟨b, off, cap, rfl, _⟩
  · exact ⟨a, cap, rfl⟩
  · exact ⟨_, cap, rfl⟩
theorem reads_cell {w : World} {a : Option Addr} {len cap : Nat} {ns : List Int} (h : Reads w (.slice a len cap) ns) (hl : len = ns.length) {k : Nat} (hk : k < len) : ∃ b off, a = some ⟨b, off, none⟩ ∧ w.cell? ⟨b, off + k, none⟩ = some (.int .u64 (ns.getD k 0)) := by
  rcases h with ⟨a, cap, h0, rfl⟩ | ⟨b, off, cap, h0, _, _, hc⟩
  · simp at hl; omega
  · cases h0
    exact ⟨b, off, rfl, hc k (by omega)⟩
/-- a row's part, read again -/
theorem get_part (ns : List Int) (more : List UInt8) (h : okRow ns) (hb : ∀ n ∈ ns, 0 ≤ n ∧ n ≤ 18446744073709551615) (hm : more.length ≤ 400000) : ∃ X R : ByteArray,
    (∀ w, Calls Try.prog 8 #[.string ⟨(partL ns ++ more).toArray⟩] w fun e w' => e = .returned (.tuple #[.string X, .string ⟨more.toArray⟩, .int .i64 0]) ∧ Below w.heap.size w w') ∧
    (∀ w, Calls Try.prog 9 #[.string X] w fun e w' => e = .returned (.tuple #[.string R, .int .i64 0]) ∧ Below w.heap.size w w') ∧
    (∀ w, Calls Try.prog 10 #[.string R] w fun e w' => ∃ v, e = .returned (.tuple #[v, .string ⟨#[]⟩, .int .i64 0]) ∧ Reads w' v ns ∧ Below w.heap.size w w') := by
  have hp := partL_le ns h
  have h4 := h.2
  refine ⟨⟨(Crc.sealL (rowL ns)).toArray⟩, ⟨(rowL ns).toArray⟩, fun w => ?_, fun w => ?_, fun w => ?_⟩
  · have := getText_any (partL ns ++ more) w (by rw [List.length_append]; omega)
    rw [partL, getTextL_text (Crc.sealL (rowL ns)) more (by rw [sealL_len]; exact h4)] at this
    rw [partL]
    exact this
  · have := Crc.open_any (Crc.sealL (rowL ns)) w (by rw [sealL_len]; omega)
    rw [Crc.open_seal] at this
    exact this
  · refine (getRow_any (rowL ns) w (by omega)).mono ?_
    have e := getRowL_row ns [] h.1 hb
    rw [List.append_nil] at e
    rw [e]
    rintro e w' ⟨v, he, ho, hbl⟩
    exact ⟨v, he, reads_own ho, hbl⟩

set_option maxHeartbeats 8000000 in
set_option maxRecDepth 20000 in
theorem walk (a0 : Option Addr) (len0 cap0 : Nat) (A0 : Nat → Option Addr) (L0 C0 : Nat → Nat) (Z0 : Nat → List Int) (a1 a2 : Int) (w : World) (b0 : IsRows .u64 w a0 len0 A0 L0 C0 Z0)
    (b1 : -9223372036854775808 ≤ a1 ∧ a1 ≤ 9223372036854775807) (b2 : 0 ≤ a2 ∧ a2 ≤ 255) :
    Calls Try.prog 3 #[.slice a0 len0 cap0, .int .i64 a1, .int .u8 a2] w fun e w' => e = .returned (.bool true) ∧ Below w.heap.size w w' := by
  have hbg : ∀ w, Calls Try.prog 4 #[] w fun e w' => e = .returned (.bool true) ∧ Below w.heap.size w w' := begins_any
  have HR : Hid (IsRows .u64 w a0 len0 A0 L0 C0 Z0) := b0
  have hlen : len0 ≤ 9223372036854775807 := by have := b0.1; unfold maxLen at this; omega
  clear b0
  obtain ⟨N, hN⟩ : ∃ N : Nat → List Int, N = fun j => (Z0 j).take (L0 j) := ⟨_, rfl⟩
  have HN : Hid (∀ w', Below w.heap.size w w' → ∀ k, k < len0 → ∃ b off, a0 = some ⟨b, off, none⟩ ∧ w'.cell? ⟨b, off + k, none⟩ = some (.slice (A0 k) (L0 k) (C0 k)) ∧ Reads w' (.slice (A0 k) (L0 k) (C0 k)) (N k) ∧ L0 k = (N k).length ∧ L0 k ≤ 9223372036854775807 ∧ ∀ n ∈ N k, 0 ≤ n ∧ n ≤ 18446744073709551615) := by
    intro w' hb k hk
    obtain ⟨b, off, h1, h2, h3, h4⟩ := (isRows_below HR.out hb).2 k hk
    obtain ⟨e1, e2, e3, e4⟩ := isRow_len h4
    rw [hN]
    refine ⟨b, off, h1, h3, reads_row h4, ?_, ?_, fun n hn => e4 n (List.mem_of_mem_take hn)⟩
    · show _ = ((Z0 k).take (L0 k)).length
      rw [List.length_take]; omega
    · unfold maxLen at e3; omega
  clear hN HR
  go_enter Try.func3, Try.ntmps3
  go_wp2_with fail
  go_at_call 4; refine (hbg _).mono ?_; rintro e w1 ⟨rfl, hW1⟩
  clear hbg
  go_wp2_with fail
  go_loopw [7, 37] (fun t i wr => ∃ (k : Nat) (S : ByteArray), k ≤ len0 ∧ k ≤ 8 ∧ i = .int .i64 k ∧ t = .string S ∧ S.size ≤ 40000 * k ∧ Hid (S = ⟨(allP N k).toArray⟩ ∧ ∀ j, j < k → okRow (N j)) ∧ Below w.heap.size w wr) (fun _ i _ => len0 - (intOf i).toNat)
  case atStart => exact ⟨0, _, by omega, by omega, rfl, rfl, Nat.le_refl _, ⟨rfl, fun j hj => by omega⟩, hW1⟩
  case round =>
    obtain ⟨k, S, hk, hk8, rfl, rfl, hS, HS, hW⟩ := hrel
    by_cases hlt : k < len0
    · obtain ⟨b, off, ha, hc, hrd, hL, hLm, hbd⟩ := HN.out wr hW k hlt
      subst ha
      obtain ⟨v, hv⟩ : ∃ v, v = Value.slice (A0 k) (L0 k) (C0 k) := ⟨_, rfl⟩
      obtain ⟨R, X, T, y1, y2, y3, hT, c1, c2, c3, hcase⟩ := put_row v (N k) hbd (by omega) (A0 k) (C0 k) (by rw [hv, hL])
      rw [hv] at c1
      generalize A0 k = Ak at *
      generalize C0 k = Ck at *
      generalize L0 k = Lk at *
      have HRd : Hid (Reads wr (.slice Ak Lk Ck) (N k)) := hrd
      clear hrd hv hL hbd
      by_cases hk7 : k < 8
      · rcases hcase with h | ⟨rfl, h⟩ | ⟨rfl, rfl, h⟩ | ⟨rfl, rfl, rfl, hok, hTe⟩
        · go_wp2_with fail
          go_at_call 5; refine (c1 _ HRd.out).mono ?_; rintro e w2 ⟨rfl, hb2⟩
          go_wp2_with fail
          go_at_call 6; refine (c2 _).mono ?_; rintro e w3 ⟨rfl, hb3⟩
          go_wp2_with fail
          go_at_call 7; refine (c3 _).mono ?_; rintro e w4 ⟨rfl, hb4⟩
          go_wp2_with fail
          go_ret
          exact ⟨rfl, below2 (below2 (below2 hW hb2) hb3) hb4⟩
        · go_wp2_with fail
          go_at_call 5; refine (c1 _ HRd.out).mono ?_; rintro e w2 ⟨rfl, hb2⟩
          go_wp2_with fail
          go_at_call 6; refine (c2 _).mono ?_; rintro e w3 ⟨rfl, hb3⟩
          go_wp2_with fail
          go_at_call 7; refine (c3 _).mono ?_; rintro e w4 ⟨rfl, hb4⟩
          go_wp2_with fail
          go_ret
          exact ⟨rfl, below2 (below2 (below2 hW hb2) hb3) hb4⟩
        · go_wp2_with fail
          go_at_call 5; refine (c1 _ HRd.out).mono ?_; rintro e w2 ⟨rfl, hb2⟩
          go_wp2_with fail
          go_at_call 6; refine (c2 _).mono ?_; rintro e w3 ⟨rfl, hb3⟩
          go_wp2_with fail
          go_at_call 7; refine (c3 _).mono ?_; rintro e w4 ⟨rfl, hb4⟩
          go_wp2_with fail
          go_ret
          exact ⟨rfl, below2 (below2 (below2 hW hb2) hb3) hb4⟩
        · have HTe : Hid (T = ⟨(partL (N k)).toArray⟩) := hTe
          clear hTe
          go_wp2_with fail
          go_at_call 5; refine (c1 _ HRd.out).mono ?_; rintro e w2 ⟨rfl, hb2⟩
          go_wp2_with fail
          go_at_call 6; refine (c2 _).mono ?_; rintro e w3 ⟨rfl, hb3⟩
          go_wp2_with fail
          go_at_call 7; refine (c3 _).mono ?_; rintro e w4 ⟨rfl, hb4⟩
          go_wp2
          go_roundw
          case rel =>
            refine ⟨k + 1, _, by omega, by omega, by go_num, rfl, by rw [ByteArray.size_append]; omega, ⟨?_, fun j hj => ?_⟩, below2 (below2 (below2 hW hb2) hb3) hb4⟩
            · rw [HS.out.1, HTe.out, str_app]; rfl
            · rcases (by omega : j < k ∨ j = k) with h | rfl
              · exact HS.out.2 j h
              · exact hok
          case measure => simp [intOf]; omega
      · have hk9 : (8 : Int) ≤ (k : Int) := by omega
        go_wp2_with fail
        go_at_call 5; refine (c1 _ HRd.out).mono ?_; rintro e w2 ⟨rfl, hb2⟩
        go_wp2_with fail
        go_at_call 6; refine (c2 _).mono ?_; rintro e w3 ⟨rfl, hb3⟩
        go_wp2_with fail
        go_at_call 7; refine (c3 _).mono ?_; rintro e w4 ⟨rfl, hb4⟩
        go_wp2_with fail
        go_ret
        exact ⟨rfl, below2 (below2 (below2 hW hb2) hb3) hb4⟩
    · obtain rfl : k = len0 := by omega
      have hlen8 : (k : Int) ≤ 8 := by omega
      have HQ0 : Hid (S = ⟨(restP N 0 (k - 0)).toArray⟩) := by
        show _ = _
        have e := restP_all N k 0
        rw [Nat.zero_add, allP, List.nil_append] at e
        rw [HS.out.1, e, Nat.sub_zero]
      go_wp2_with fail
      go_loopw [16, 78] (fun t i wr => ∃ (m : Nat) (Q : ByteArray), m ≤ k ∧ i = .int .i64 m ∧ t = .string Q ∧ Hid (Q = ⟨(restP N m (k - m)).toArray⟩) ∧ Below w.heap.size w wr) (fun _ i _ => k - (intOf i).toNat)
      case atStart => exact ⟨0, _, by omega, rfl, rfl, HQ0, hW⟩
      case round =>
        obtain ⟨m, Q, hm, rfl, rfl, HQ, hWm⟩ := hrel
        by_cases hmk : m < k
        · obtain ⟨b, off, ha, hc, hrd, hL, hLm, hbd⟩ := HN.out wr hWm m hmk
          subst ha
          obtain ⟨X, R, c1, c2, c3⟩ := get_part (N m) (restP N (m + 1) (k - (m + 1))) (HS.out.2 m hmk) hbd (by
            have := restP_le N (k - (m + 1)) (m + 1) (fun j h1 h2 => HS.out.2 j (by omega))
            omega)
          have hQe : Q = ⟨(partL (N m) ++ restP N (m + 1) (k - (m + 1))).toArray⟩ := by
            rw [HQ.out, show k - m = (k - (m + 1)) + 1 by omega, restP]
          rw [← hQe] at c1
          obtain ⟨M, hM⟩ : ∃ M : ByteArray, M = ⟨(restP N (m + 1) (k - (m + 1))).toArray⟩ := ⟨_, rfl⟩
          rw [← hM] at c1
          have HM : Hid (M = ⟨(restP N (m + 1) (k - (m + 1))).toArray⟩) := hM
          clear hM hQe HQ
          generalize A0 m = Ak at *
          generalize C0 m = Ck at *
          generalize L0 m = Lk at *
          have HRd : Hid (Reads wr (.slice Ak Lk Ck) (N m) ∧ Lk = (N m).length) := ⟨hrd, hL⟩
          clear hrd hL hbd
          go_wp2_with fail
          go_at_call 8; refine (c1 _).mono ?_; rintro e w2 ⟨rfl, hb2⟩
          go_wp2_with fail
          go_at_call 9; refine (c2 _).mono ?_; rintro e w3 ⟨rfl, hb3⟩
          go_wp2_with fail
          go_at_call 10; refine (c3 _).mono ?_; rintro e w4 ⟨v, rfl, hv, hb4⟩
          obtain ⟨a', cap', hv'⟩ := reads_slice hv
          rw [← HRd.out.2] at hv'
          subst hv'
          have hr4 := reads_below (reads_below (reads_below HRd.out.1 hb2) hb3) hb4
          have HV : Hid (Reads w4 (.slice a' Lk cap') (N m) ∧ Reads w4 (.slice Ak Lk Ck) (N m)) := ⟨hv, hr4⟩
          have hW4 := below2 (below2 (below2 hWm hb2) hb3) hb4
          clear hv hr4 c1 c2 c3 hb2 hb3 hb4
          go_wp2_with fail
          go_loopw [122] (fun i wx => ∃ q p : Nat, q ≤ Lk ∧ i = .int .i64 q ∧ wx = w4.drewN p) (fun i _ => Lk - (intOf i).toNat)
          case atStart => exact ⟨0, 0, by omega, rfl, rfl⟩
          case round =>
            obtain ⟨q, p, hq, rfl, rfl⟩ := hrel
            by_cases hql : q < Lk
            · obtain ⟨z, hz⟩ : ∃ z, z = (N m).getD q 0 := ⟨_, rfl⟩
              obtain ⟨b1', o1, e1, k1⟩ := reads_cell HV.out.1 HRd.out.2 hql
              obtain ⟨b2', o2, e2, k2⟩ := reads_cell HV.out.2 HRd.out.2 hql
              rw [← hz] at k1 k2
              subst e1
              subst e2
              clear hz
              have hpos : (0 : Int) ≤ (q : Int) := by omega
              have hlt3 : (q : Int) < (Lk : Int) := by omega
              go_wp2_with fail
              go_quiet (fail)
              go_wp2
              go_roundw
              case rel => exact ⟨q + 1, _, by omega, by go_num, rfl⟩
              case measure => simp [intOf]; omega
            · go_wp2
              go_roundw
              case rel => exact ⟨m + 1, M, by omega, by go_num, rfl, HM, below_drewN hW4 _⟩
              case measure => simp [intOf]; omega
        · obtain rfl : m = k := by omega
          have hQe : Q = ⟨#[]⟩ := by rw [HQ.out, Nat.sub_self]; rfl
          subst hQe
          clear HQ HQ0
          obtain ⟨sl, hsl⟩ : ∃ sl, sl = allP N m := ⟨_, rfl⟩
          have hSe : S = ⟨sl.toArray⟩ := by rw [HS.out.1, hsl]
          have hll : sl.length ≤ 40000 * m := by have := hS; rw [hSe, size_list] at this; exact this
          clear HS hsl HN
          by_cases hsm : sl.length ≤ 32768
          · have c1 := fun w => Crc.sealed_any sl w hsm
            rw [← hSe] at c1
            have HSe : Hid (S = ⟨sl.toArray⟩) := hSe
            obtain ⟨l, hl⟩ : ∃ l, l = Crc.sealL sl := ⟨_, rfl⟩
            have hl4 : l.length = sl.length + 4 := by rw [hl, sealL_len]
            obtain ⟨G, hG⟩ : ∃ G : ByteArray, G = ⟨l.toArray⟩ := ⟨_, rfl⟩
            rw [← hl, ← hG] at c1
            have hGs : G.size = l.length := by rw [hG, size_list]
            have HG : Hid (G = ⟨l.toArray⟩ ∧ G.size = l.length ∧ l = Crc.sealL sl) := ⟨hG, hGs, hl⟩
            have hGl : G.size ≤ 32772 := by omega
            clear hSe hG hl
            by_cases h1 : a1 < 0
            · clear hGs hl4
              go_wp2_with fail
              go_at_call 6; refine (c1 _).mono ?_; rintro e w2 ⟨rfl, hb2⟩
              go_wp2_with fail
              go_ret
              exact ⟨rfl, below2 hWm hb2⟩
            by_cases h2 : (G.size : Int) ≤ a1
            · clear hGs hl4
              go_wp2_with fail
              go_at_call 6; refine (c1 _).mono ?_; rintro e w2 ⟨rfl, hb2⟩
              go_wp2_with fail
              go_ret
              exact ⟨rfl, below2 hWm hb2⟩
            by_cases h3 : a2 = 0
            · subst h3
              clear hGs hl4
              go_wp2_with fail
              go_at_call 6; refine (c1 _).mono ?_; rintro e w2 ⟨rfl, hb2⟩
              go_wp2_with fail
              go_ret
              exact ⟨rfl, below2 hWm hb2⟩
            obtain ⟨i, rfl⟩ := Int.eq_ofNat_of_zero_le (by omega : 0 ≤ a1)
            obtain ⟨bb, rfl⟩ := Int.eq_ofNat_of_zero_le b2.1
            have hi : i < l.length := by omega
            have hbz : ((bb : Int) == 0) = false := by simpa using h3
            have hxl := (l[i]).toNat_lt
            have hX := Crc.xor_u8 (l[i]).toNat bb (by omega) (by omega)
            have hcl : (l[i]).toNat ^^^ bb < 256 := Nat.xor_lt_two_pow (n := 8) (by omega) (by omega)
            generalize hcx : (l[i]).toNat ^^^ bb = c at hX hcl
            have hne : UInt8.ofNat c ≠ l[i] := by
              intro h
              have h5 := congrArg UInt8.toNat h
              have h6 : (UInt8.ofNat c).toNat = c := by simp; omega
              rw [h6, ← hcx] at h5
              have h7 := congrArg ((l[i]).toNat ^^^ ·) h5
              have h8 : bb = 0 := by simpa [← Nat.xor_assoc] using h7
              exact h3 (by rw [h8]; rfl)
            obtain ⟨T, hT⟩ : ∃ T : ByteArray, T = ⟨(l.set i (UInt8.ofNat c)).toArray⟩ := ⟨_, rfl⟩
            have p1 : ∀ w, Calls Try.prog 9 #[.string T] w fun e w' => e = .returned (.tuple #[.string ⟨#[]⟩, .int .i64 6]) ∧ Below w.heap.size w w' := fun w => by
              have := Crc.open_any (l.set i (UInt8.ofNat c)) w (by rw [List.length_set]; omega)
              have e : Crc.openL (l.set i (UInt8.ofNat c)) = ([], 6) := by
                have hl := HG.out.2.2
                subst hl
                exact open_turned sl i hi _ hne
              rw [e] at this
              rw [hT]
              exact this
            obtain ⟨x, hx⟩ : ∃ x : Int, x = (l[i].toNat : Int) := ⟨_, rfl⟩
            rw [← hx] at hX
            have HX : Hid (x = (l[i].toNat : Int)) := hx
            have HT : Hid (T = ⟨(l.set i (UInt8.ofNat c)).toArray⟩) := hT
            have HC : Hid (c < 256) := hcl
            have HI : Hid (i < l.length) := hi
            have hiS : (i : Int) < (G.size : Int) := by omega
            have hGo : G.size = l.length := hGs
            clear hx hT hcl hne hcx hxl hGs hl4 h1 h2 h3
            have HGo : Hid (G.size = l.length) := hGo
            clear hGo
            go_wp2_with fail
            go_at_call 6; refine (c1 _).mono ?_; rintro e w2 ⟨rfl, hb2⟩
            obtain ⟨W, cp, hcv, hcell, hfz, hbW⟩ := Crc.conv_bytes l w2
            rw [← HG.out.1] at hcv
            have k1 : W.cell? ⟨w2.heap.size, i, none⟩ = some (.int .u8 x) := by rw [HX.out]; exact hcell i HI.out
            have k2 : W.frozen? ⟨w2.heap.size, i, none⟩ = false := hfz i HI.out
            have k3 : (convert 34 9 (.slice (some ⟨w2.heap.size, 0, none⟩) G.size cp)).run Try.prog (W.setCell ⟨w2.heap.size, i, none⟩ (.int .u8 (c : Int))) = .ok (.string T) (W.setCell ⟨w2.heap.size, i, none⟩ (.int .u8 (c : Int))) := by
              have h0 := run_convert_bytes_back (P := Try.prog) (W.setCell ⟨w2.heap.size, i, none⟩ (.int .u8 (c : Int))) 34 9 5 ⟨w2.heap.size, 0, none⟩ cp (l.set i (UInt8.ofNat c)) Try.underlying34 Try.underlying5 Try.underlying9 (fun j hj => by
                rw [addr_add, Nat.zero_add]
                rw [List.length_set] at hj
                by_cases hij : i = j
                · subst hij
                  rw [World.cell?_setCell_same _ _ _ k1]
                  have := HC.out
                  simp
                  omega
                · rw [World.cell?_setCell_other _ _ _ _ (by simp), hcell j hj]
                  simp [hij])
              rw [List.length_set, ← HGo.out] at h0
              rw [HT.out]
              exact h0
            have hW2 : Below w.heap.size w (W.setCell ⟨w2.heap.size, i, none⟩ (.int .u8 (c : Int))) := (below2 (below2 hWm hb2) hbW).setCell (p := ⟨w2.heap.size, i, none⟩) (below2 hWm hb2).size _
            clear hcell hfz
            go_wp2_with fail
            go_at_call 9; refine (p1 _).mono ?_; rintro e w3 ⟨rfl, hb3⟩
            go_wp2_with fail
            go_ret
            exact ⟨rfl, below2 hW2 hb3⟩
          · have c1 := fun w => Crc.sealed_long S w (by rw [hSe, size_list]; omega) (by rw [hSe, size_list]; omega)
            have HSe : Hid (S = ⟨sl.toArray⟩) := hSe
            clear hSe
            go_wp2_with fail
            go_at_call 6; refine (c1 _).mono ?_; rintro e w2 ⟨rfl, hb2⟩
            go_wp2_with fail
            go_ret
            exact ⟨rfl, below2 hWm hb2⟩

set_option maxRecDepth 100000 in
theorem lifted (os : Os) (started : os.Started) (H : Type) (enc : TypeId × Value → H) :
    ReturnsInHanded {} Try.checked os 3 .any (Rows.topSealedSpec.pre6 enc Try.prog Try.f3 Rows.topSealedRow.domain false) (Rows.topSealedSpec.post enc Try.prog Try.f3 false true false false) := by
  refine returnsInHanded_of_change_sized (C := Try.checked) own started (by kernel_rfl) Try.func3
    (ChangeSpec.witness6 (enc := enc) (C := Try.checked) false ⟨#[], #[.slice none 0 0, .int .i64 0, .int .u8 0], []⟩ 8 (by kernel_rfl) (by kernel_rfl) (by kernel_rfl) (by kernel_rfl)) ?_
  intro W base args ds gs before hval0 hW _ hsz0 _
  have hsz : (DataW.weightsEach Try.prog (Try.f3.params.toList ++ Rows.topSealedSpec.plain.varTypes Try.prog) (ds ++ gs)).all (· ≤ reachBytes) = true := hsz0
  clear hsz0
  have hval : ∀ (j : Nat) t v, Try.f3.params[j]? = some t → args[j]? = some v → Value.okWide Try.prog W .any base t v := hval0
  have hW' := hW
  obtain ⟨p, q, hA0, hV, rfl, hfz, hnd⟩ := hW
  have hA : DataW.TrodAll enc Try.prog W 0 (fun _ => true) true Try.f3.params.toList args.toList ds p := hA0
  rw [Try.params3] at hA hval hsz
  obtain ⟨v0, vs0, d0, ds0, p0, q0, hargs, rfl, rfl, h0, r0⟩ := trodAll_cons hA
  obtain ⟨v1, vs1, d1, ds1, p1, q1, rfl, rfl, rfl, h1, r1⟩ := trodAll_cons r0
  obtain ⟨v2, vs2, d2, ds2, p2, q2, rfl, rfl, rfl, h2, r2⟩ := trodAll_cons r1
  obtain ⟨rfl, rfl, rfl⟩ := trodAll_nil r2
  obtain rfl : args = #[v0, v1, v2] := by cases args; simp_all
  obtain ⟨rfl, rfl⟩ := trodVars_none hV
  obtain ⟨a0, len0, cap0, rfl⟩ := okWide_slice Try.underlying22 (hval 0 22 v0 rfl rfl)
  have k0 := h0
  have lt0 : ∀ x ∈ p0, x.block < W.heap.size := by obtain ⟨m, hm⟩ := k0; exact DataW.trod_lt m _ _ _ hm
  obtain ⟨A0, L0, C0, Z0, b0⟩ : ∃ A L C Z, IsRows .u64 W a0 len0 A L C Z := by
    obtain ⟨fuel, hf⟩ := h0
    rcases Go.Deep.open_int_rows Try.underlying22 Try.underlying24 Try.underlying33 (by kernel_rfl) (by kernel_rfl) hf with ⟨hcs, _⟩ | ⟨x, l, c, A, L, C, Z, hcs, _, hl, hm, _, hr⟩
    · simp [Value.cells] at hcs
      obtain ⟨rfl, rfl, rfl⟩ := hcs
      exact ⟨fun _ => none, fun _ => 0, fun _ => 0, fun _ => [], by unfold maxLen; omega, fun r hr => by omega⟩
    · simp [Value.cells] at hcs
      obtain ⟨rfl, rfl, rfl⟩ := hcs
      exact ⟨A, L, C, Z, isRows_of hl hm hr⟩
  obtain ⟨a1, rfl, rfl, rfl, w1⟩ := open_int Try.underlying3 (hval 1 3 v1 rfl rfl) h1
  have b1 : -9223372036854775808 ≤ a1 ∧ a1 ≤ 9223372036854775807 := by simpa [Lit.wf, IntKind.min, IntKind.max, IntKind.signed, IntKind.bits] using w1
  obtain ⟨a2, rfl, rfl, rfl, w2⟩ := open_int Try.underlying5 (hval 2 5 v2 rfl rfl) h2
  have b2 : 0 ≤ a2 ∧ a2 ≤ 255 := by simpa [Lit.wf, IntKind.min, IntKind.max, IntKind.signed, IntKind.bits] using w2
  clear hA0 hval0
  refine (walk a0 len0 cap0 A0 L0 C0 Z0 a1 a2 W b0 b1 b2).mono fun e W' ⟨he, bel⟩ => ?_
  subst he
  exact ⟨_, rfl, _, _, _, [], _, [], hW', trodAll_mk1 (shut_bool Try.underlying4 _), (trodAll_cons_mk (Below.trod laidOut (by kernel_rfl) (of_decide_eq_true (by kernel_rfl)) k0 bel lt0) (trodAll_cons_mk (shut_int Try.underlying3 w1) (trodAll_cons_mk (shut_int Try.underlying5 w2) trodAll_mk0))), rfl, bel.frame _, fun h => by cases h⟩

theorem over : Rows.topSealedRow.holds Try.pinned (OpenSpec.ofChange Rows.topSealedSpec) :=
  OpenClaim.holds_of_wide 3 Try.f3 rfl rfl rfl rfl rfl rfl rfl ⟨rfl, rfl, rfl, rfl, rfl⟩ rfl rfl rfl rfl rfl (by kernel_rfl) Try.func3 (by kernel_rfl)
    (of_decide_eq_true (by kernel_rfl)) (by unfold Func.isWrapper; first | (rw [if_pos (by decide +kernel)]; kernel_rfl) | (rw [if_neg (by decide +kernel)]; exact ⟨rfl, rfl⟩))
    (fun os started H enc _ => lifted os started H enc)
end topSealed
theorem sealed_holds : Rows.TopSealedSaid := topSealed.over
#print axioms sealed_holds
end Go.Proofs.Ytmbciomfkiadiac
