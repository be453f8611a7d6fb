/- The document's answer of layer 11: an action's bytes. -/
import Derived.Test.YtopabkkapbaibaaGreatMsgPut2
import Derived.Test.YtopabkkapbaibaaGreatMsgPref
import Derived.Test.YtopabkkapbaibaaGreatPageRefAll
import Derived.Test.YtopabkkapbaibaaGreatAddrRefAll
import Derived.Deep.RegionHeld
import Derived.Test.YtopabkkapbaibaaGreatMsgRX1
set_option linter.unusedVariables false
namespace Go.Proofs.YtopabkkapbaibaaGreat.Msg
open Go.RowKit
open Go.Proofs.YtopabkkapbaibaaGreat.Addr (Pf okP checkP wideN firstN kP hiN loN adV pfV RowAt below2 below_drew below_new bset RowAt.lt RowAt.cell RowAt.frozen RowAt.below RowAt.drew RowAt.new RowAt.alloc gdrew gset gbelow galloc grefl cells2 cells4 results_cell Bl bl_ne wp_region_bl bl_call bl_same)

theorem of8 (x : Nat) : UInt8.ofNat (x % 256) = UInt8.ofNat x := by
  apply UInt8.toNat_inj.1
  simp
theorem eight_be (m : Nat) : Page.eightL m = be 8 m := by
  simp only [Page.eightL, be, List.nil_append, List.cons_append, Nat.div_div_eq_div_mul, of8]
theorem numL_nb (l : List UInt8) : ∀ acc, Page.numL acc l = nb acc l := by
  induction l with
  | nil => intro acc; rfl
  | cons b t ih => intro acc; rw [Page.numL, nb, ih, Nat.mul_comm]
theorem be16 (n : Nat) : Page.eightL (hiN n) ++ Page.eightL (loN n) = be 16 n := by
  have h1 := be_split 8 8 n
  have h2 := be_mod 8 n
  rw [show (256 : Nat) ^ 8 = 18446744073709551616 from rfl] at h1 h2
  rw [eight_be, eight_be, h1, ← h2]; rfl
theorem lay_be (six : Bool) (n : Nat) : layL six n = be (wB six) n := by
  unfold layL
  have hs := be_split (frN six) (wB six) n
  rw [show frN six + wB six = 16 by cases six <;> rfl] at hs
  rw [hs, List.drop_append, be_len, Nat.sub_self, List.drop_of_length_le (by rw [be_len]; exact Nat.le_refl _)]
  rfl
set_option maxHeartbeats 2000000 in
theorem raddress_any (six : Bool) (n : Nat) (w : World) (hn : n < 2 ^ 128) :
    Calls Tryz.prog 63 #[.bool six, adV n] w fun e w' => e = .returned (.string ⟨(layL six n).toArray⟩) ∧ Below w.heap.size w w' := by
  have c1 := fun W : World => Page.reight_any (hiN n) W (Addr.hiN_lt hn)
  have c2 := fun W : World => Page.reight_any (loN n) W (Addr.loN_lt n)
  have hcat := bytes_cat (Page.eightL (hiN n)) (Page.eightL (loN n))
  rw [be16] at hcat
  have hl16 : (be 16 n).length = 16 := be_len 16 n
  have s1 : (⟨(Page.eightL (hiN n)).toArray⟩ : ByteArray).size = 8 := rfl
  have s2 : (⟨(Page.eightL (loN n)).toArray⟩ : ByteArray).size = 8 := rfl
  have s3 : (⟨(be 16 n).toArray⟩ : ByteArray).size = 16 := by rw [size_list, hl16]
  have hx : (⟨(be 16 n).toArray⟩ : ByteArray).extract 12 16 = ⟨((be 16 n).drop 12).toArray⟩ := by
    have := drop_suf (be 16 n) 12 (by omega)
    rw [hl16] at this
    exact this
  have HL : Hid (layL six n = (be 16 n).drop (frN six)) := rfl
  generalize layL six n = L at HL ⊢
  generalize (⟨(Page.eightL (hiN n)).toArray⟩ : ByteArray) = A at *
  generalize (⟨(Page.eightL (loN n)).toArray⟩ : ByteArray) = B at *
  have HA : Hid (A ++ B = (⟨(be 16 n).toArray⟩ : ByteArray)) := hcat
  unfold Addr.adV
  generalize hiN n = hi at *
  generalize loN n = lo at *
  clear hn hl16
  obtain ⟨X, hX⟩ : ∃ X, X = w.alloc (.cells #[.int .u64 (hi : Int), .int .u64 (lo : Int)] 28) := ⟨_, rfl⟩
  have hB : Below w.heap.size w X := by rw [hX]; exact below_new (Below.refl _ _) _
  have r0 : RowAt X w.heap.size [.int .u64 (hi : Int), .int .u64 (lo : Int)] 28 := by rw [hX]; exact RowAt.new _ _ _
  have m0 : ∀ p : Bl X, p.W.cell? ⟨w.heap.size, 0, none⟩ = some (.int .u64 (hi : Int)) := fun p => (r0.below p.h).cell 0
  have m1 : ∀ p : Bl X, p.W.cell? ⟨w.heap.size, 1, none⟩ = some (.int .u64 (lo : Int)) := fun p => (r0.below p.h).cell 1
  haveI := bl_ne X
  cases six
  · have HV : Hid (L = (be 16 n).drop 12) := by show _ = _; rw [HL.out]; rfl
    generalize (⟨(be 16 n).toArray⟩ : ByteArray) = S at *
    go_enter Tryz.func63, Tryz.ntmps63
    go_upto_region 1 with fail
    rw [← hX]
    clear hX HL
    refine wp_region_bl (by kernel_rfl) (by kernel_rfl) ?_
    repeat (quiet_step (first | (go_at_call 89; with_reducible exact bl_call (c1 _)) | (go_at_call 89; with_reducible exact bl_call (c2 _))))
    refine wpQuiet_nil ?_
    intro _ hw'
    obtain ⟨⟨wq, hq⟩, hw2⟩ := hw'
    subst hw2
    have hW := below2 hB hq
    go_wp2_with fail
    go_ret
    exact ⟨by rw [HV.out]; rfl, hW⟩
  · have HV : Hid (L = be 16 n) := by show _ = _; rw [HL.out]; rfl
    have HS : Hid ((⟨L.toArray⟩ : ByteArray) = ⟨(be 16 n).toArray⟩) := by show _ = _; rw [HV.out]
    clear HV HL hx
    generalize (⟨L.toArray⟩ : ByteArray) = L' at *
    generalize (⟨(be 16 n).toArray⟩ : ByteArray) = S at *
    go_enter Tryz.func63, Tryz.ntmps63
    go_upto_region 1 with fail
    rw [← hX]
    clear hX
    refine wp_region_bl (by kernel_rfl) (by kernel_rfl) ?_
    repeat (quiet_step (first | (go_at_call 89; with_reducible exact bl_call (c1 _)) | (go_at_call 89; with_reducible exact bl_call (c2 _))))
    refine wpQuiet_nil ?_
    intro _ hw'
    obtain ⟨⟨wq, hq⟩, hw2⟩ := hw'
    subst hw2
    have hW := below2 hB hq
    go_wp2_with fail
    go_ret
    exact ⟨by rw [HS.out]; rfl, hW⟩
theorem conv_two (x y : UInt8) (W : World) (g : Nat) (h0 : W.cell? ⟨g, 0, none⟩ = some (.int .u8 (x.toNat : Int))) (h1 : W.cell? ⟨g, 1, none⟩ = some (.int .u8 (y.toNat : Int))) :
    (convert 70 9 (.slice (some ⟨g, 0, none⟩) 2 2)).run Tryz.prog W = .ok (.string ⟨#[x, y]⟩) W :=
  run_convert_bytes_back (P := Tryz.prog) W 70 9 5 ⟨g, 0, none⟩ 2 [x, y] Tryz.underlying70 Tryz.underlying5 Tryz.underlying9 (fun j hj => by
    rw [addr_add, Nat.zero_add]
    have : j = 0 ∨ j = 1 := by simp at hj; omega
    rcases this with rfl | rfl
    · exact h0
    · exact h1)
end Go.Proofs.YtopabkkapbaibaaGreat.Msg
namespace Go.Proofs.YtopabkkapbaibaaGreat.Msg
open Go.RowKit
open Go.Proofs.YtopabkkapbaibaaGreat.Addr (Pf okP checkP wideN firstN kP hiN loN adV pfV RowAt below2 below_drew below_new bset RowAt.lt RowAt.cell RowAt.frozen RowAt.below RowAt.drew RowAt.new RowAt.alloc gdrew gset gbelow galloc grefl cells2 cells4 results_cell Bl bl_ne wp_region_bl bl_call bl_same)
set_option maxHeartbeats 2000000 in
theorem rputPrefix_no (sx : Bool) (hi lo l : Int) (w : World)
    (cP : ∀ W : World, Calls Tryz.prog 37 #[.agg #[.bool sx, .int .u64 hi, .int .u64 lo, .int .i64 l]] W fun e w' => e = .returned (.int .i64 2) ∧ Below W.heap.size W w') :
    Calls Tryz.prog 41 #[.agg #[.bool sx, .int .u64 hi, .int .u64 lo, .int .i64 l]] w fun e w' => e = .returned (.tuple #[.string ⟨#[]⟩, .int .i64 2]) ∧ Below w.heap.size w w' := by
  obtain ⟨X, hX⟩ : ∃ X, X = w.alloc (.cells #[.bool sx, .int .u64 hi, .int .u64 lo, .int .i64 l] 30) := ⟨_, rfl⟩
  have hB : Below w.heap.size w X := by rw [hX]; exact below_new (Below.refl _ _) _
  have r0 : RowAt X w.heap.size [.bool sx, .int .u64 hi, .int .u64 lo, .int .i64 l] 30 := by rw [hX]; exact RowAt.new _ _ _
  obtain ⟨x0, x1, x2, x3, xf⟩ := cells4 r0
  go_enter Tryz.func41, Tryz.ntmps41
  go_upto_region 1 with fail
  rw [← hX]
  clear hX
  go_wp2_with fail
  go_at_call 37; refine (cP _).mono ?_; rintro e w1 ⟨rfl, hb1⟩
  go_wp2_with fail
  go_ret2
  exact ⟨rfl, below2 hB hb1⟩
theorem two_made {W Y : World} {u v : Value} {t : TypeId} (hb : Below (W.alloc (.cells #[u, v] t)).heap.size (W.alloc (.cells #[u, v] t)) Y) : Y.cell? ⟨W.heap.size, 0, none⟩ = some u ∧ Y.cell? ⟨W.heap.size, 1, none⟩ = some v := by
  have r := RowAt.below (RowAt.new W [u, v] t) hb
  exact ⟨r.cell 0, r.cell 1⟩
theorem two_made2 {W Y : World} {u v : Value} {t : TypeId} (hb : Below (W.alloc (.cells #[u, v] t)).drew.heap.size (W.alloc (.cells #[u, v] t)).drew Y) : Y.cell? ⟨W.heap.size, 0, none⟩ = some u ∧ Y.cell? ⟨W.heap.size, 1, none⟩ = some v := by
  have r := RowAt.below (RowAt.new W [u, v] t).drew hb
  exact ⟨r.cell 0, r.cell 1⟩
set_option maxHeartbeats 4000000 in
theorem rputPrefix_yes (sx : Bool) (hi lo : Int) (k mn : Nat) (w : World) (mb kb : UInt8) (A T O R : ByteArray)
    (cP : ∀ W : World, Calls Tryz.prog 37 #[.agg #[.bool sx, .int .u64 hi, .int .u64 lo, .int .i64 (k : Int)]] W fun e w' => e = .returned (.int .i64 0) ∧ Below W.heap.size W w')
    (cA : ∀ W : World, Calls Tryz.prog 63 #[.bool sx, .agg #[.int .u64 hi, .int .u64 lo]] W fun e w' => e = .returned (.string A) ∧ Below W.heap.size W w')
    (hk : (k : Int) ≤ 128) (hmb : mb = if sx then 6 else 4) (hkb : (kb.toNat : Int) = (k : Int)) (hmn : (mn : Int) = ((k : Int) + 7) / 8) (hA : (mn : Int) ≤ (A.size : Int)) (hA2 : (A.size : Int) ≤ 16)
    (hT : A.extract 0 mn = T) (hTs : T.size = mn) (hO : O = ⟨#[mb, kb]⟩) (hR : O ++ T = R) :
    Calls Tryz.prog 41 #[.agg #[.bool sx, .int .u64 hi, .int .u64 lo, .int .i64 (k : Int)]] w fun e w' => e = .returned (.tuple #[.string R, .int .i64 0]) ∧ Below w.heap.size w w' := by
  have hcv := fun (W : World) (g : Nat) => conv_two mb kb W g
  rw [hkb] at hcv
  obtain ⟨mi, hmi⟩ : ∃ mi : Int, mi = (mb.toNat : Int) := ⟨_, rfl⟩
  rw [← hmi] at hcv
  rw [← hO] at hcv
  have hmi2 : mi = if sx then 6 else 4 := by rw [hmi, hmb]; cases sx <;> rfl
  have hOs : O.size = 2 := by rw [hO]; rfl
  have hw8 : IntKind.u8.wrap (k : Int) = (k : Int) := by rw [IntKind.wrap_u8]; omega
  have e2 : IntKind.i64.wrap ((k : Int) + 7) = (k : Int) + 7 := by rw [IntKind.wrap_i64]; omega
  have hmw : IntKind.i64.wrap (mn : Int) = (mn : Int) := by rw [IntKind.wrap_i64]; omega
  have e3 : IntKind.i64.wrap (((k : Int) + 7).tdiv 8) = (mn : Int) := by rw [Int.tdiv_eq_ediv_of_nonneg (by omega), ← hmn]; exact hmw
  have hno : ¬ 9223372036854775807 < O.size + T.size := by omega
  clear hO hmi hmb hkb hmn
  obtain ⟨X, hX⟩ : ∃ X, X = w.alloc (.cells #[.bool sx, .int .u64 hi, .int .u64 lo, .int .i64 (k : Int)] 30) := ⟨_, rfl⟩
  have hB : Below w.heap.size w X := by rw [hX]; exact below_new (Below.refl _ _) _
  have r0 : RowAt X w.heap.size [.bool sx, .int .u64 hi, .int .u64 lo, .int .i64 (k : Int)] 30 := by rw [hX]; exact RowAt.new _ _ _
  obtain ⟨x0, x1, x2, x3, xf⟩ := cells4 r0
  cases sx
  · simp only [Bool.false_eq_true, if_false] at hmi2
    subst hmi2
    go_enter Tryz.func41, Tryz.ntmps41
    go_upto_region 1 with fail
    rw [← hX]
    clear hX
    go_wp2_with fail
    go_at_call 37; refine (cP _).mono ?_; rintro e w1 ⟨rfl, hb1⟩
    replace r0 := RowAt.below r0 hb1
    replace hB := below2 hB hb1
    clear x0 x1 x2 x3 xf hb1 cP
    obtain ⟨x0, x1, x2, x3, xf⟩ := cells4 r0
    have hlt := RowAt.lt r0
    generalize w.heap.size = g0 at r0 x0 x1 x2 x3 xf hlt ⊢
    go_upto_region 6 with fail
    have HSK : Hid (∀ W : World, Below w1.heap.size w1 W → (W.cell? ⟨g0, 0, none⟩ = some (.bool false) ∧ W.cell? ⟨g0, 1, none⟩ = some (.int .u64 hi) ∧ W.cell? ⟨g0, 2, none⟩ = some (.int .u64 lo) ∧ W.cell? ⟨g0, 3, none⟩ = some (.int .i64 (k : Int)))) := fun W hb => by
      have r := RowAt.below r0 hb
      exact ⟨r.cell 0, r.cell 1, r.cell 2, r.cell 3⟩
    have hbA : Below w1.heap.size w1 w1 := Below.refl _ _
    clear r0
    go_region_held (fun w' => w'.cell? ⟨g0, 0, none⟩ = some (.bool false) ∧ w'.cell? ⟨g0, 1, none⟩ = some (.int .u64 hi) ∧ w'.cell? ⟨g0, 2, none⟩ = some (.int .u64 lo) ∧ w'.cell? ⟨g0, 3, none⟩ = some (.int .i64 (k : Int)))
      (first
        | (refine HSK.out _ ?_
           repeat' (first | with_reducible exact hbA | with_reducible apply below_drew | with_reducible apply below_new))
        | go_keep)
      (first
        | (go_at_call 63
           refine (cA _).mono ?_
           rintro e w3 ⟨rfl, hb3⟩
           (first | (with_reducible have hq := two_made2 hb3) | (with_reducible have hq := two_made hb3) | skip)
           (first | obtain ⟨hq0, hq1⟩ := hq | skip)
           have hbN : Below w1.heap.size w1 w3 := below2 (by repeat' (first | with_reducible exact hbA | with_reducible apply below_drew | with_reducible apply below_new)) hb3
           clear hbA
           have hbA := hbN))
    all_goals go_wp2_with fail
    all_goals go_ret2
    all_goals exact ⟨rfl, below2 hB (by repeat' (first | with_reducible exact hbA | with_reducible apply below_drew | with_reducible apply below_new))⟩
  · simp only [if_true] at hmi2
    subst hmi2
    go_enter Tryz.func41, Tryz.ntmps41
    go_upto_region 1 with fail
    rw [← hX]
    clear hX
    go_wp2_with fail
    go_at_call 37; refine (cP _).mono ?_; rintro e w1 ⟨rfl, hb1⟩
    replace r0 := RowAt.below r0 hb1
    replace hB := below2 hB hb1
    clear x0 x1 x2 x3 xf hb1 cP
    obtain ⟨x0, x1, x2, x3, xf⟩ := cells4 r0
    have hlt := RowAt.lt r0
    generalize w.heap.size = g0 at r0 x0 x1 x2 x3 xf hlt ⊢
    go_upto_region 6 with fail
    have HSK : Hid (∀ W : World, Below w1.heap.size w1 W → (W.cell? ⟨g0, 0, none⟩ = some (.bool true) ∧ W.cell? ⟨g0, 1, none⟩ = some (.int .u64 hi) ∧ W.cell? ⟨g0, 2, none⟩ = some (.int .u64 lo) ∧ W.cell? ⟨g0, 3, none⟩ = some (.int .i64 (k : Int)))) := fun W hb => by
      have r := RowAt.below r0 hb
      exact ⟨r.cell 0, r.cell 1, r.cell 2, r.cell 3⟩
    have hbA : Below w1.heap.size w1 w1 := Below.refl _ _
    clear r0
    go_region_held (fun w' => w'.cell? ⟨g0, 0, none⟩ = some (.bool true) ∧ w'.cell? ⟨g0, 1, none⟩ = some (.int .u64 hi) ∧ w'.cell? ⟨g0, 2, none⟩ = some (.int .u64 lo) ∧ w'.cell? ⟨g0, 3, none⟩ = some (.int .i64 (k : Int)))
      (first
        | (refine HSK.out _ ?_
           repeat' (first | with_reducible exact hbA | with_reducible apply below_drew | with_reducible apply below_new))
        | go_keep)
      (first
        | (go_at_call 63
           refine (cA _).mono ?_
           rintro e w3 ⟨rfl, hb3⟩
           (first | (with_reducible have hq := two_made2 hb3) | (with_reducible have hq := two_made hb3) | skip)
           (first | obtain ⟨hq0, hq1⟩ := hq | skip)
           have hbN : Below w1.heap.size w1 w3 := below2 (by repeat' (first | with_reducible exact hbA | with_reducible apply below_drew | with_reducible apply below_new)) hb3
           clear hbA
           have hbA := hbN))
    all_goals go_wp2_with fail
    all_goals go_ret2
    all_goals exact ⟨rfl, below2 hB (by repeat' (first | with_reducible exact hbA | with_reducible apply below_drew | with_reducible apply below_new))⟩
theorem rputPrefix_any (p : Pf) (w : World) (hl : -9223372036854775808 ≤ p.len ∧ p.len ≤ 9223372036854775807) (hn : p.n < 2 ^ 128) : Calls Tryz.prog 41 #[pfV p] w fun e w' => e = .returned (.tuple #[.string ⟨(if okP p then prefB p else []).toArray⟩, .int .i64 (checkP p)]) ∧ Below w.heap.size w w' := by
  have cP := fun W : World => Addr.rcheck_any p W hl hn
  have hcp : checkP p = if okP p = true then 0 else 2 := rfl
  rw [hcp] at cP ⊢
  unfold Addr.pfV at *
  cases hok : okP p with
  | false =>
    rw [hok] at cP
    exact rputPrefix_no p.six (hiN p.n) (loN p.n) p.len w cP
  | true =>
    rw [hok] at cP
    obtain ⟨h1, h2, h3⟩ := Addr.okP_iff.1 hok
    have hw := wB8 p.six
    have hwl := Addr.wideN_le p.six
    have hw16 : wB p.six ≤ 16 := by cases p.six <;> decide
    obtain ⟨k, hk⟩ : ∃ k : Nat, p.len = (k : Int) := ⟨p.len.toNat, by omega⟩
    have hkt : p.len.toNat = k := by omega
    have hkl : k ≤ 128 := by omega
    have hmw : manyN k ≤ wB p.six := by unfold manyN; omega
    have hll : (layL p.six p.n).length = wB p.six := by rw [lay_be, be_len]
    have cA := fun W : World => raddress_any p.six p.n W hn
    unfold Addr.adV at cA
    have hT := take_pre (layL p.six p.n) (manyN k) (by rw [hll]; exact hmw)
    have hcat := bytes_cat [markB p.six, UInt8.ofNat k] ((layL p.six p.n).take (manyN k))
    have HB : prefB p = [markB p.six, UInt8.ofNat k] ++ (layL p.six p.n).take (manyN k) := by unfold prefB; rw [lay_be, hkt]
    simp only [if_true]
    rw [HB]
    rw [hk] at cP ⊢
    refine rputPrefix_yes p.six (hiN p.n) (loN p.n) k (manyN k) w (markB p.six) (UInt8.ofNat k) _ _ _ _ cP cA (by omega) (by unfold markB; rfl) (byte_k k (by omega)) (by unfold manyN; omega) ?_ ?_ hT ?_ rfl hcat
    · rw [size_list, hll]; omega
    · rw [size_list, hll]; omega
    · rw [size_list, List.length_take, hll]; omega
end Go.Proofs.YtopabkkapbaibaaGreat.Msg
namespace Go.Proofs.YtopabkkapbaibaaGreat.Msg
open Go.RowKit
open Go.Proofs.YtopabkkapbaibaaGreat.Addr (Pf okP checkP wideN firstN kP hiN loN adV pfV RowAt below2 below_drew below_new bset RowAt.lt RowAt.cell RowAt.frozen RowAt.below RowAt.drew RowAt.new RowAt.alloc gdrew gset gbelow galloc grefl cells2 cells4 results_cell)

set_option maxHeartbeats 2000000 in
theorem rputAction_any (a : Ac) (w : World) (hf : FitA a) : Calls Tryz.prog 42 #[acV a] w fun e w' => e = .returned (.tuple #[.string ⟨(if okA a then actB a else []).toArray⟩, .int .i64 (checkA a)]) ∧ Below w.heap.size w w' := by
  have c1 := fun W => acts_any a W hf
  have hc : checkA a = if okA a = true then 0 else 2 := rfl
  rw [hc]
  cases hok : okA a with
  | false =>
    rw [hok] at c1
    simp only [Bool.false_eq_true, if_false]
    unfold acV at *
    clear hc hok hf
    generalize (a.k : Int) = k at *
    generalize a.i = i at *
    go_enter Tryz.func42, Tryz.ntmps42
    go_upto_region 1 with fail
    obtain ⟨Y1, hY⟩ : ∃ Y1, Y1 = w.alloc (.cells #[.int .u8 k, .int .i64 i] 33) := ⟨_, rfl⟩
    have hB : Below w.heap.size w Y1 := by rw [hY]; exact below_new (Below.refl _ _) _
    have ra : RowAt Y1 w.heap.size [.int .u8 k, .int .i64 i] 33 := by rw [hY]; exact RowAt.new _ _ _
    rw [← hY]
    clear hY
    obtain ⟨u0, u1, uf⟩ := cells2 ra
    go_wp2_with fail
    go_at_call 38; refine (c1 _).mono ?_; rintro e w1 ⟨rfl, hb1⟩
    go_wp2_with fail
    go_ret2
    exact ⟨rfl, below2 hB hb1⟩
  | true =>
    rw [hok] at c1
    simp only [if_true]
    obtain ⟨⟨h1, h2⟩, ⟨h3, h4⟩, h5⟩ := okA_bd hok
    obtain ⟨k, i⟩ := a
    simp only at *
    have cp := fun W : World => rput i W (by omega) (by omega)
    have hcv := fun W g => conv_one (k : Int) (by omega) (by omega) W g
    have hl := putL_le i.toNat (by omega)
    have hno : ¬ 9223372036854775807 < 1 + (putL i.toNat).length := by omega
    have hw : IntKind.u64.wrap i = i := by rw [IntKind.wrap_u64]; omega
    have hL1 : k = 1 → (⟨#[UInt8.ofNat (k : Int).toNat]⟩ ++ ⟨(putL i.toNat).toArray⟩ : ByteArray) = ⟨(actB ⟨k, i⟩).toArray⟩ := fun h => by
      have := bytes_cat [UInt8.ofNat k] (putL i.toNat)
      unfold actB
      rw [if_pos h]
      exact this
    have hL2 : ¬ k = 1 → (⟨#[UInt8.ofNat (k : Int).toNat]⟩ : ByteArray) = ⟨(actB ⟨k, i⟩).toArray⟩ := fun h => by
      unfold actB
      rw [if_neg h]
      rfl
    have hKs : (⟨#[UInt8.ofNat (k : Int).toNat]⟩ : ByteArray).size = 1 := rfl
    unfold acV at *
    clear hc hok hf
    simp only at hL1 hL2 c1 hKs ⊢
    generalize (⟨(actB ⟨k, i⟩).toArray⟩ : ByteArray) = A at *
    generalize (⟨#[UInt8.ofNat (k : Int).toNat]⟩ : ByteArray) = K at *
    go_enter Tryz.func42, Tryz.ntmps42
    go_upto_region 1 with fail
    obtain ⟨Y1, hY⟩ : ∃ Y1, Y1 = w.alloc (.cells #[.int .u8 (k : Int), .int .i64 i] 33) := ⟨_, rfl⟩
    have hB : Below w.heap.size w Y1 := by rw [hY]; exact below_new (Below.refl _ _) _
    have ra : RowAt Y1 w.heap.size [.int .u8 (k : Int), .int .i64 i] 33 := by rw [hY]; exact RowAt.new _ _ _
    rw [← hY]
    clear hY
    obtain ⟨u0, u1, uf⟩ := cells2 ra
    go_wp2_with fail
    go_at_call 38; refine (c1 _).mono ?_; rintro e w1 ⟨rfl, hb1⟩
    replace ra := RowAt.below ra hb1
    replace hB := below2 hB hb1
    clear u0 u1 uf hb1 c1
    obtain ⟨u0, u1, uf⟩ := cells2 ra
    go_upto_region 4 with fail
    obtain ⟨Y2, hY⟩ : ∃ Y2, Y2 = w1.alloc (.cells #[.int .u8 (k : Int)] 5) := ⟨_, rfl⟩
    have hbY : Below w1.heap.size w1 Y2 := by rw [hY]; exact below_new (Below.refl _ _) _
    rw [← hY]
    replace ra := RowAt.below ra hbY
    replace hB := below2 hB hbY
    clear u0 u1 uf hY hbY hcv
    obtain ⟨u0, u1, uf⟩ := cells2 ra
    by_cases hk : k = 1
    · have hA := hL1 hk
      subst hk
      clear hL1 hL2
      go_wp2_with fail
      go_at_call 40; refine (cp _).mono ?_; rintro e w3 ⟨rfl, hb⟩
      go_wp2_with fail
      go_ret2
      exact ⟨rfl, below2 hB hb⟩
    · have hA := hL2 hk
      have hk2 : ((k : Int) == 1) = false := beq_eq_false_iff_ne.2 (by omega)
      have hk3 : (k == 1) = false := beq_eq_false_iff_ne.2 hk
      subst hA
      clear hL1 hL2
      go_wp2_with fail
      go_ret2
      exact ⟨rfl, hB⟩
end Go.Proofs.YtopabkkapbaibaaGreat.Msg
