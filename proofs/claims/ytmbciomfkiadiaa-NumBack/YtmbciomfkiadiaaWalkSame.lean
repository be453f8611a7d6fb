/- What the document's Same and its Row return; and rows of numbers that are read again. -/
import Derived.Test.YtmbciomfkiadiaaWalkList
set_option linter.unusedVariables false
namespace Go.Proofs.Ytmbciomfkiadiaa
open Go.RowKit

/-- a slice whose elements are these numbers -/
def Reads (w : World) (v : Value) (ns : List Int) : Prop :=
  (∃ a cap, v = .slice a 0 cap ∧ ns = []) ∨ ∃ b off cap, v = .slice (some ⟨b, off, none⟩) ns.length cap ∧ b < w.heap.size ∧ ns.length ≤ maxLen ∧ ∀ j, j < ns.length → w.cell? ⟨b, off + j, none⟩ = some (.int .u64 (ns.getD j 0))
theorem reads_below {w w' : World} {v : Value} {ns : List Int} (h : Reads w v ns) (hb : Below w.heap.size w w') : Reads w' v ns := by
  rcases h with h | ⟨b, off, cap, rfl, hlt, hm, hc⟩
  · exact .inl h
  · exact .inr ⟨b, off, cap, rfl, by have := hb.size; omega, hm, fun j hj => by rw [hb.cell (p := ⟨b, off + j, none⟩) hlt]; exact hc j hj⟩
theorem reads_own {w : World} {B : Nat} {v : Value} {ns : List Int} (h : w.ownsRow B 22 1 v ns.length (ns.map (Value.int .u64))) : Reads w v ns := by
  rcases h.2 with ⟨hv, h0⟩ | ⟨g, cap, cur, hv, hg, hh, hn, hm, hs, ht⟩
  · exact .inl ⟨_, _, hv, List.length_eq_zero_iff.1 h0⟩
  · subst hv
    have hlt : g < w.heap.size := by
      rcases Nat.lt_or_ge g w.heap.size with h' | h'
      · exact h'
      · simp [Array.getElem?_eq_none h'] at hh
    refine .inr ⟨g, 0, cap, rfl, hlt, by omega, fun j hj => ?_⟩
    rw [Nat.zero_add, h.cellAt j (by omega)]
    simp [hj]
theorem reads_row {w : World} {a : Option Addr} {len cap : Nat} {zs : List Int} (h : IsRow .u64 w a len cap zs) : Reads w (.slice a len cap) (zs.take len) := by
  have hl := isRow_len h
  by_cases h0 : len = 0
  · subst h0; exact .inl ⟨_, _, rfl, by simp⟩
  · obtain ⟨b, off, rfl, hlt, hc⟩ := isRow_at h (k := 0) (by omega)
    have hlen : (zs.take len).length = len := by rw [List.length_take]; omega
    refine .inr ⟨b, off, cap, by rw [hlen], hlt, by rw [hlen]; omega, fun j hj => ?_⟩
    rw [hlen] at hj
    rw [hc j hj]
    simp [List.getD_eq_getElem?_getD, List.getElem?_take_of_lt hj]

set_option maxHeartbeats 1000000 in
set_option maxRecDepth 20000 in
theorem same_true (v u : Value) (ns : List Int) (w : World) (hv : Reads w v ns) (hu : Reads w u ns) :
    Calls Try.prog 19 #[v, u] w fun e w' => e = .returned (.bool true) ∧ Below w.heap.size w w' := by
  rcases hv with ⟨a, cap, rfl, rfl⟩ | ⟨b, off, cap, rfl, hlt, hm, hc⟩
  · rcases hu with ⟨a', cap', rfl, _⟩ | ⟨b', off', cap', rfl, _⟩
    · go_enter Try.func19, Try.ntmps19
      go_wp2
      go_loop [13] (fun i => i = .int .i64 0) (fun _ => 0)
      case atStart => rfl
      case round =>
        subst hrel
        go_wp2
        go_ret
        exact ⟨rfl, Below.refl _ _⟩
    · go_enter Try.func19, Try.ntmps19
      go_wp2
      go_loop [13] (fun i => i = .int .i64 0) (fun _ => 0)
      case atStart => rfl
      case round =>
        subst hrel
        go_wp2
        go_ret
        exact ⟨rfl, Below.refl _ _⟩
  · obtain ⟨a', cap', hu'⟩ : ∃ a' cap', u = .slice a' ns.length cap' := by
      rcases hu with ⟨a', cap', rfl, h0⟩ | ⟨b', off', cap', rfl, _⟩
      · exact ⟨a', cap', by rw [h0]; rfl⟩
      · exact ⟨_, _, rfl⟩
    subst hu'
    have HU : Hid (Reads w (.slice a' ns.length cap') ns) := hu
    have HC : Hid (∀ j, j < ns.length → w.cell? ⟨b, off + j, none⟩ = some (.int .u64 (ns.getD j 0))) := hc
    clear hu hc
    obtain ⟨N, hN⟩ : ∃ N, N = ns.length := ⟨_, rfl⟩
    rw [← hN] at hm ⊢
    have HN : Hid (N = ns.length) := hN
    clear hN
    unfold maxLen at hm
    go_enter Try.func19, Try.ntmps19
    go_wp2
    go_loopw [13] (fun i wr => ∃ k q : Nat, k ≤ N ∧ i = .int .i64 k ∧ wr = w.drewN q) (fun i _ => N - (intOf i).toNat)
    case atStart => exact ⟨0, 0, by omega, rfl, rfl⟩
    case round =>
      obtain ⟨k, q, hk, rfl, rfl⟩ := hrel
      by_cases hlt2 : k < N
      · obtain ⟨z, hz⟩ : ∃ z, z = ns.getD k 0 := ⟨_, rfl⟩
        have c1 : w.cell? ⟨b, off + k, none⟩ = some (.int .u64 z) := by rw [hz]; exact HC.out k (by rw [← HN.out]; exact hlt2)
        obtain ⟨b', off', ha', c2⟩ : ∃ b' off', a' = some ⟨b', off', none⟩ ∧ w.cell? ⟨b', off' + k, none⟩ = some (.int .u64 z) := by
          have hNo := HN.out
          rcases HU.out with ⟨_, _, h0, h1⟩ | ⟨b', off', cap'', h0, _, _, hc⟩
          · exfalso; rw [h1] at hNo; simp at hNo; omega
          · cases h0
            exact ⟨b', off', rfl, by rw [hz]; exact hc k (by omega)⟩
        subst ha'
        clear hz
        have hpos : (0 : Int) ≤ (k : Int) := by omega
        have hlt3 : (k : Int) < (N : Int) := by omega
        go_wp2_with fail
        go_quiet (fail)
        go_wp2
        go_roundw
        case rel => exact ⟨k + 1, _, by omega, by go_num, rfl⟩
        case measure => simp [intOf]; omega
      · go_wp2
        go_ret
        exact ⟨rfl, below_drewN (Below.refl _ _) _⟩

theorem str_app (a b : List UInt8) : (⟨a.toArray⟩ ++ ⟨b.toArray⟩ : ByteArray) = ⟨(a ++ b).toArray⟩ := by
  apply ByteArray.ext
  rw [ByteArray.data_append]
  simp
theorem rrow_long (a : Option Addr) (len cap : Nat) (w : World) (hl : 4096 < len) (hm : len ≤ 9223372036854775807) :
    Calls Try.prog 15 #[.slice a len cap] w fun e w' => e = .returned (.tuple #[.string ⟨#[]⟩, .int .i64 11]) ∧ Below w.heap.size w w' := by
  go_enter Try.func15, Try.ntmps15
  go_wp2
  go_ret2
  exact ⟨rfl, Below.refl _ _⟩
set_option maxHeartbeats 1000000 in
set_option maxRecDepth 20000 in
theorem rrow_any (a : Option Addr) (len cap : Nat) (zs : List Int) (w : World) (hr : IsRow .u64 w a len cap zs) (hl : len ≤ 4096) :
    Calls Try.prog 15 #[.slice a len cap] w fun e w' => e = .returned (.tuple #[.string ⟨(rowL (zs.take len)).toArray⟩, .int .i64 0]) ∧ Below w.heap.size w w' := by
  have HR : Hid (IsRow .u64 w a len cap zs) := hr
  obtain ⟨hlz, hzc, hcm, hzb⟩ := isRow_len hr
  have HZ : Hid (∀ n ∈ zs, 0 ≤ n ∧ n ≤ 18446744073709551615) := hzb
  clear hr hzb hzc hcm
  go_enter Try.func15, Try.ntmps15
  go_wp2_with fail
  go_at_call 12; refine (rput len _ (by omega) (by omega)).mono ?_; rintro e w1 ⟨rfl, hb1⟩
  have hL0 := putL_le len (by omega)
  go_wp2_with fail
  go_loopw [4, 16] (fun t i wr => ∃ (k : Nat) (S : ByteArray), k ≤ len ∧ i = .int .i64 k ∧ t = .string S ∧ S.size ≤ 10 + 10 * k ∧ Hid (S = ⟨(putL len ++ allL (zs.take k)).toArray⟩) ∧ Below w.heap.size w wr) (fun _ i _ => len - (intOf i).toNat)
  case atStart => exact ⟨0, _, by omega, rfl, rfl, by rw [size_list]; simp; omega, (by simp [allL] : _ = _), hb1⟩
  case round =>
    obtain ⟨k, S, hk, rfl, rfl, hS, HS, hW⟩ := hrel
    have hsz := hW.size
    by_cases hlt : k < len
    · obtain ⟨b, off, rfl, hb, hcell⟩ := isRow_at HR.out hlt
      obtain ⟨z, hz⟩ : ∃ z, z = zs.getD k 0 := ⟨_, rfl⟩
      have hc : wr.cell? ⟨b, off + k, none⟩ = some (.int .u64 z) := by rw [hz, hW.cell (p := ⟨b, off + k, none⟩) hb]; exact hcell k hlt
      have hzb : 0 ≤ z ∧ z ≤ 18446744073709551615 := by
        rw [hz, List.getD_eq_getElem?_getD, List.getElem?_eq_getElem (by omega)]
        exact HZ.out _ (List.getElem_mem _)
      have HE : Hid (zs.take (k + 1) = zs.take k ++ [z]) := by rw [hz]; exact take_snoc' zs k (by omega)
      clear hz hcell
      obtain ⟨Q, hQ⟩ : ∃ Q : ByteArray, Q = ⟨(putL z.toNat).toArray⟩ := ⟨_, rfl⟩
      have hp : ∀ w, Calls Try.prog 12 #[.int .u64 z] w fun e w' => e = .returned (.string Q) ∧ Below w.heap.size w w' := fun w => by rw [hQ]; exact rput z w hzb.1 hzb.2
      have hQs : Q.size ≤ 10 := by rw [hQ, size_list]; exact putL_le z.toNat (by omega)
      have HQ : Hid (Q = ⟨(putL z.toNat).toArray⟩) := hQ
      clear hQ
      go_wp2_with fail
      go_at_call 12; refine (hp _).mono ?_; rintro e w3 ⟨rfl, hb3⟩
      go_wp2
      go_roundw
      case rel =>
        refine ⟨k + 1, _, by omega, by go_num, rfl, by rw [ByteArray.size_append]; omega, ?_, hW.trans (hb3.mono hsz)⟩
        show _ = _
        rw [HS.out, HQ.out, str_app, HE.out, allL_snoc, List.append_assoc]
      case measure => simp [intOf]; omega
    · obtain rfl : k = len := by omega
      go_wp2
      go_ret2
      refine ⟨?_, hW⟩
      rw [HS.out, rowL, List.length_take, Nat.min_eq_left hlz]
      rfl
end Go.Proofs.Ytmbciomfkiadiaa
