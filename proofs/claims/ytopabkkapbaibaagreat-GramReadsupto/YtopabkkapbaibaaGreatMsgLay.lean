/- What lay returns. -/
import Derived.Test.YtopabkkapbaibaaGreatMsgFam
set_option linter.unusedVariables false
namespace Go.Proofs.YtopabkkapbaibaaGreat.Msg
open Go.RowKit
open Go.Proofs.YtopabkkapbaibaaGreat.Addr (Pf okP checkP wideN firstN kP hiN loN adV pfV RowAt below2 below_drew below_new bset RowAt.lt RowAt.cell RowAt.frozen RowAt.below RowAt.drew RowAt.new RowAt.alloc gdrew gset gbelow galloc grefl cells2 cells4 results_cell)

def layL (six : Bool) (n : Nat) : List UInt8 := (be 16 n).drop (frN six)
theorem cB_of (x : Nat) (y : Int) (h : y = ((x % 256 : Nat) : Int)) : cB (UInt8.ofNat (x % 256)) = .int .u8 y := by
  unfold cB
  rw [UInt8.toNat_ofNat_of_lt' (by show x % 256 < 256; omega), h]
theorem cL_be8 (x : Nat) (hx : x < 18446744073709551616) : cL (be 8 x) = [.int .u8 ((x : Int) / 72057594037927936), .int .u8 ((x : Int) / 281474976710656 % 256), .int .u8 ((x : Int) / 1099511627776 % 256), .int .u8 ((x : Int) / 4294967296 % 256), .int .u8 ((x : Int) / 16777216 % 256), .int .u8 ((x : Int) / 65536 % 256), .int .u8 ((x : Int) / 256 % 256), .int .u8 ((x : Int) % 256)] := by
  show [cB _, cB _, cB _, cB _, cB _, cB _, cB _, cB _] = _
  rw [cB_of _ ((x : Int) / 72057594037927936) (by omega), cB_of _ ((x : Int) / 281474976710656 % 256) (by omega), cB_of _ ((x : Int) / 1099511627776 % 256) (by omega), cB_of _ ((x : Int) / 4294967296 % 256) (by omega), cB_of _ ((x : Int) / 16777216 % 256) (by omega), cB_of _ ((x : Int) / 65536 % 256) (by omega), cB_of _ ((x : Int) / 256 % 256) (by omega), cB_of _ ((x : Int) % 256) (by omega)]
theorem be_mod (k : Nat) : ∀ n, be k (n % 256 ^ k) = be k n := by
  induction k with
  | zero => intro n; rfl
  | succ k ih =>
    intro n
    rw [be, be]
    have e1 : n % 256 ^ (k + 1) / 256 = n / 256 % 256 ^ k := by rw [Nat.pow_succ, Nat.mul_comm, Nat.mod_mul_right_div_self]
    have e2 : n % 256 ^ (k + 1) % 256 = n % 256 := Nat.mod_mod_of_dvd n ⟨256 ^ k, by rw [Nat.pow_succ, Nat.mul_comm]⟩
    rw [e1, e2, ih]
theorem cL_be16 (n : Nat) (hn : n < 2 ^ 128) : cL (be 16 n) = [.int .u8 (((hiN n : Nat) : Int) / 72057594037927936), .int .u8 (((hiN n : Nat) : Int) / 281474976710656 % 256), .int .u8 (((hiN n : Nat) : Int) / 1099511627776 % 256), .int .u8 (((hiN n : Nat) : Int) / 4294967296 % 256), .int .u8 (((hiN n : Nat) : Int) / 16777216 % 256), .int .u8 (((hiN n : Nat) : Int) / 65536 % 256), .int .u8 (((hiN n : Nat) : Int) / 256 % 256), .int .u8 (((hiN n : Nat) : Int) % 256), .int .u8 (((loN n : Nat) : Int) / 72057594037927936), .int .u8 (((loN n : Nat) : Int) / 281474976710656 % 256), .int .u8 (((loN n : Nat) : Int) / 1099511627776 % 256), .int .u8 (((loN n : Nat) : Int) / 4294967296 % 256), .int .u8 (((loN n : Nat) : Int) / 16777216 % 256), .int .u8 (((loN n : Nat) : Int) / 65536 % 256), .int .u8 (((loN n : Nat) : Int) / 256 % 256), .int .u8 (((loN n : Nat) : Int) % 256)] := by
  have e : be 16 n = be 8 (hiN n) ++ be 8 (loN n) := by
    have h1 := be_split 8 8 n
    have h2 := be_mod 8 n
    rw [show (256 : Nat) ^ 8 = 18446744073709551616 from rfl] at h1 h2
    rw [h1, ← h2]; rfl
  rw [e, cL, List.map_append]
  show cL (be 8 (hiN n)) ++ cL (be 8 (loN n)) = _
  rw [cL_be8 _ (Addr.hiN_lt hn), cL_be8 _ (Addr.loN_lt n)]
  rfl
theorem conv_lay (W : World) (g n : Nat) (six : Bool) (t : TypeId) (h : RowAt W g (cL (be 16 n)) t) : (convert 70 9 (.slice (some ⟨g, frN six, none⟩) (wB six) (wB six))).run Tryz.prog W = .ok (.string ⟨(layL six n).toArray⟩) W := by
  have hl : (layL six n).length = wB six := by unfold layL; rw [List.length_drop, be_len]; cases six <;> rfl
  have := run_convert_bytes_back (P := Tryz.prog) W 70 9 5 ⟨g, frN six, none⟩ (wB six) (layL six n) Tryz.underlying70 Tryz.underlying5 Tryz.underlying9 (fun j hj => by
    rw [addr_add, RowAt.cell h, cL, List.getElem?_map]
    have e : (layL six n)[j]? = (be 16 n)[frN six + j]? := by unfold layL; rw [List.getElem?_drop]
    rw [← e, List.getElem?_eq_getElem hj]; rfl)
  rw [hl] at this
  exact this
set_option maxHeartbeats 4000000 in
set_option maxRecDepth 20000 in
theorem lay_any (six : Bool) (n : Nat) (w : World) (hn : n < 2 ^ 128) :
    Calls Tryz.prog 100 #[famV six, adV n] w fun e w' => e = .returned (.string ⟨(layL six n).toArray⟩) ∧ Below w.heap.size w w' := by
  unfold famV Addr.adV
  have h1 : ((hiN n : Nat) : Int) ≤ 18446744073709551615 := by have := Addr.hiN_lt hn; omega
  have h2 : ((loN n : Nat) : Int) ≤ 18446744073709551615 := by have := Addr.loN_lt n; omega
  have hcl := cL_be16 n hn
  have HCV : Hid (∀ (W : World) (g : Nat), RowAt W g (cL (be 16 n)) 157 → (convert 70 9 (.slice (some ⟨g, frN six, none⟩) (wB six) (wB six))).run Tryz.prog W = .ok (.string ⟨(layL six n).toArray⟩) W) := fun W g h => conv_lay W g n six _ h
  rw [hcl] at HCV
  clear hcl
  generalize hiN n = h at *
  generalize loN n = l at *
  generalize layL six n = R at *
  clear hn
  have hgo : Calls Tryz.prog 100 #[.agg #[.int .u8 (if six then 6 else 4), .int .i64 (if six then 0 else 12)], .agg #[.int .u64 (h : Int), .int .u64 (l : Int)]] w fun e w' => e = .returned (.string ⟨R.toArray⟩) ∧ Below w.heap.size w w' := by
    obtain ⟨V, hV⟩ : ∃ V, V = (w.alloc (.cells #[.int .u8 (if six then 6 else 4), .int .i64 (if six then 0 else 12)] 137)).alloc (.cells #[.int .u64 (h : Int), .int .u64 (l : Int)] 28) := ⟨_, rfl⟩
    have hs : V.heap.size = w.heap.size + 1 + 1 := by rw [hV, World.size_alloc, World.size_alloc]
    have hB : Below w.heap.size w V := by rw [hV]; exact below_new (below_new (Below.refl _ _) _) _
    have hc := HCV.out (V.alloc (.cells #[.int .u8 ((h : Int) / 72057594037927936), .int .u8 ((h : Int) / 281474976710656 % 256), .int .u8 ((h : Int) / 1099511627776 % 256), .int .u8 ((h : Int) / 4294967296 % 256), .int .u8 ((h : Int) / 16777216 % 256), .int .u8 ((h : Int) / 65536 % 256), .int .u8 ((h : Int) / 256 % 256), .int .u8 ((h : Int) % 256), .int .u8 ((l : Int) / 72057594037927936), .int .u8 ((l : Int) / 281474976710656 % 256), .int .u8 ((l : Int) / 1099511627776 % 256), .int .u8 ((l : Int) / 4294967296 % 256), .int .u8 ((l : Int) / 16777216 % 256), .int .u8 ((l : Int) / 65536 % 256), .int .u8 ((l : Int) / 256 % 256), .int .u8 ((l : Int) % 256)] 157)) V.heap.size (RowAt.new V _ _)
    have hB2 := below_new hB (.cells #[.int .u8 ((h : Int) / 72057594037927936), .int .u8 ((h : Int) / 281474976710656 % 256), .int .u8 ((h : Int) / 1099511627776 % 256), .int .u8 ((h : Int) / 4294967296 % 256), .int .u8 ((h : Int) / 16777216 % 256), .int .u8 ((h : Int) / 65536 % 256), .int .u8 ((h : Int) / 256 % 256), .int .u8 ((h : Int) % 256), .int .u8 ((l : Int) / 72057594037927936), .int .u8 ((l : Int) / 281474976710656 % 256), .int .u8 ((l : Int) / 1099511627776 % 256), .int .u8 ((l : Int) / 4294967296 % 256), .int .u8 ((l : Int) / 16777216 % 256), .int .u8 ((l : Int) / 65536 % 256), .int .u8 ((l : Int) / 256 % 256), .int .u8 ((l : Int) % 256)] 157)
    rw [hs] at hc
    have HVV : Hid (V = (w.alloc (.cells #[.int .u8 (if six then 6 else 4), .int .i64 (if six then 0 else 12)] 137)).alloc (.cells #[.int .u64 (h : Int), .int .u64 (l : Int)] 28)) := hV
    clear HCV hV hs hB
    cases six
    all_goals
      unfold frN wB at hc
      simp only [if_true, if_false, Bool.false_eq_true] at hc HVV ⊢
      go_enter Tryz.func100, Tryz.ntmps100
      go_wp2_with fail
      refine wp_loop_rounds 9 ?_
      repeat any_goals (rw [rounds_succ]; go_wp2_with fail)
      rw [← HVV.out, hc]
      go_wp2_with fail
      go_ret
      exact ⟨rfl, hB2⟩
  exact hgo
end Go.Proofs.YtopabkkapbaibaaGreat.Msg
