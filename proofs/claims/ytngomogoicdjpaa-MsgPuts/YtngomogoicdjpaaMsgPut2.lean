/- What partsBytes, Put, PutPrefix and PutAction return. -/
import Derived.Test.YtngomogoicdjpaaMsgPut
import Derived.Test.YtngomogoicdjpaaMsgChk3
set_option linter.unusedVariables false
namespace Go.Proofs.Ytngomogoicdjpaa.Msg
open Go.RowKit
open Go.Proofs.Ytngomogoicdjpaa.Addr (Pf okP checkP wideN firstN kP hiN loN adV pfV RowAt below2 below_drew below_new bset RowAt.lt RowAt.cell RowAt.frozen RowAt.below RowAt.drew RowAt.new RowAt.alloc gdrew gset gbelow galloc grefl cells2 cells4 results_cell Bl bl_ne wp_region_bl bl_call bl_same)

set_option maxHeartbeats 1000000 in
theorem putAction_any (a : Ac) (w : World) (hf : FitA a) : Calls Try.prog 16 #[acV a] w fun e w' => e = .returned (.tuple #[.string ⟨(if okA a then actB a else []).toArray⟩, .int .i64 (checkA a)]) ∧ Below w.heap.size w w' := by
  have c1 := fun W => checkAction_any a W hf
  have hc : checkA a = if okA a = true then 0 else 2 := rfl
  have c2 : okA a = true → ∀ W : World, Calls Try.prog 42 #[acV a] W fun e w' => e = .returned (.string ⟨(actB a).toArray⟩) ∧ Below W.heap.size W w' := fun h W => actionBytes_any a W h
  rw [hc] at c1 ⊢
  generalize okA a = B at *
  generalize actB a = L at *
  obtain ⟨k, i⟩ := a
  unfold acV at *
  simp only at *
  clear hf hc
  obtain ⟨X, hX⟩ : ∃ X, X = w.alloc (.cells #[.int .u8 (k : Int), .int .i64 i] 30) := ⟨_, rfl⟩
  have hB : Below w.heap.size w X := by rw [hX]; exact below_new (Below.refl _ _) _
  have r0 : RowAt X w.heap.size [.int .u8 (k : Int), .int .i64 i] 30 := by rw [hX]; exact RowAt.new _ _ _
  obtain ⟨x0, x1, xf⟩ := cells2 r0
  cases B
  · simp only [Bool.false_eq_true, if_false] at c1 ⊢
    go_enter Try.func16, Try.ntmps16
    go_upto_region 1 with fail
    rw [← hX]
    clear hX
    go_wp2_with fail
    go_at_call 41; refine (c1 _).mono ?_; rintro e w1 ⟨rfl, hb1⟩
    go_wp2_with fail
    go_ret2
    exact ⟨rfl, below2 hB hb1⟩
  · simp only [if_true] at c1 ⊢
    have c3 := c2 rfl
    clear c2
    go_enter Try.func16, Try.ntmps16
    go_upto_region 1 with fail
    rw [← hX]
    clear hX
    go_wp2_with fail
    go_at_call 41; refine (c1 _).mono ?_; rintro e w1 ⟨rfl, hb1⟩
    clear x0 x1 xf
    obtain ⟨x0, x1, xf⟩ := cells2 (RowAt.below r0 hb1)
    go_wp2_with fail
    go_at_call 42; refine (c3 _).mono ?_; rintro e w2 ⟨rfl, hb2⟩
    go_wp2_with fail
    go_ret2
    exact ⟨rfl, below2 (below2 hB hb1) hb2⟩
set_option maxHeartbeats 1000000 in
theorem putPrefix_any (p : Pf) (w : World) (hl : -9223372036854775808 ≤ p.len ∧ p.len ≤ 9223372036854775807) (hn : p.n < 2 ^ 128) : Calls Try.prog 12 #[pfV p] w fun e w' => e = .returned (.tuple #[.string ⟨(if okP p then prefB p else []).toArray⟩, .int .i64 (checkP p)]) ∧ Below w.heap.size w w' := by
  have c1 := fun W => Addr.check_any p W hl hn
  have hc : checkP p = if okP p = true then 0 else 2 := rfl
  have c2 : okP p = true → ∀ W : World, Calls Try.prog 33 #[pfV p] W fun e w' => e = .returned (.string ⟨(prefB p).toArray⟩) ∧ Below W.heap.size W w' := fun h W => prefixBytes_any p W h
  rw [hc] at c1 ⊢
  generalize okP p = B at *
  generalize prefB p = L at *
  obtain ⟨s6, n, ln⟩ := p
  unfold Addr.pfV at *
  simp only at *
  clear hl hn hc
  generalize hiN n = nh at *
  generalize loN n = nl at *
  obtain ⟨X, hX⟩ : ∃ X, X = w.alloc (.cells #[.bool s6, .int .u64 (nh : Int), .int .u64 (nl : Int), .int .i64 ln] 27) := ⟨_, rfl⟩
  have hB : Below w.heap.size w X := by rw [hX]; exact below_new (Below.refl _ _) _
  have r0 : RowAt X w.heap.size [.bool s6, .int .u64 (nh : Int), .int .u64 (nl : Int), .int .i64 ln] 27 := by rw [hX]; exact RowAt.new _ _ _
  obtain ⟨x0, x1, x2, x3, xf⟩ := cells4 r0
  cases B
  · simp only [Bool.false_eq_true, if_false] at c1 ⊢
    go_enter Try.func12, Try.ntmps12
    go_upto_region 1 with fail
    rw [← hX]
    clear hX
    go_wp2_with fail
    go_at_call 32; refine (c1 _).mono ?_; rintro e w1 ⟨rfl, hb1⟩
    go_wp2_with fail
    go_ret2
    exact ⟨rfl, below2 hB hb1⟩
  · simp only [if_true] at c1 ⊢
    have c3 := c2 rfl
    clear c2
    go_enter Try.func12, Try.ntmps12
    go_upto_region 1 with fail
    rw [← hX]
    clear hX
    go_wp2_with fail
    go_at_call 32; refine (c1 _).mono ?_; rintro e w1 ⟨rfl, hb1⟩
    clear x0 x1 x2 x3 xf
    obtain ⟨x0, x1, x2, x3, xf⟩ := cells4 (RowAt.below r0 hb1)
    go_wp2_with fail
    go_at_call 33; refine (c3 _).mono ?_; rintro e w2 ⟨rfl, hb2⟩
    go_wp2_with fail
    go_ret2
    exact ⟨rfl, below2 (below2 hB hb1) hb2⟩
/-- the bytes of an event that are of its kind alone -/
def restB (e : Ev) : List UInt8 := if e.kind = 3 then prefB e.pf ++ actB e.act else if e.kind = 4 then prefB e.pf else if e.kind = 5 then putL e.iface.toNat ++ putL e.peer.toNat else if e.kind = 6 then putL e.iface.toNat else []
def evB (e : Ev) : List UInt8 := [UInt8.ofNat e.kind] ++ putL e.router.toNat ++ putL e.seq ++ putL e.time.toNat ++ restB e
theorem okE_bd {e : Ev} (h : okE e = true) : ((1 ≤ e.kind ∧ e.kind ≤ 6) ∧ (0 ≤ e.router ∧ e.router ≤ 1048576) ∧ (1 ≤ e.seq ∧ e.seq ≤ 1099511627776) ∧ (0 ≤ e.time ∧ e.time ≤ 1099511627776)) ∧ (okP e.pf = true ∧ (0 ≤ e.iface ∧ e.iface ≤ 65536) ∧ (0 ≤ e.peer ∧ e.peer ≤ 1048576) ∧ (e.kind = 3 → okA e.act = true)) ∧ unN e = zeroE := by
  unfold okE headB partsB at h
  simp only [Bool.and_eq_true, decide_eq_true_eq, Bool.or_eq_true, and_assoc] at h
  obtain ⟨h1, h2, h3, h4, h5, h6, h7, h8, h9, h10, h11, h12, h13, h14, h15⟩ := h
  refine ⟨⟨⟨h1, h2⟩, ⟨h3, h4⟩, ⟨h5, h6⟩, ⟨h7, h8⟩⟩, ⟨h9, ⟨h10, h11⟩, ⟨h12, h13⟩, fun hk => ?_⟩, (eqE_iff _ _).1 h15⟩
  rcases h14 with h | h
  · exact absurd hk h
  · exact h
theorem prefB_le (p : Pf) : (prefB p).length ≤ 18 := by
  unfold prefB
  rw [List.length_append, List.length_take, be_len]
  have : wB p.six ≤ 16 := by cases p.six <;> decide
  simp only [List.length_cons, List.length_nil]
  omega
theorem actB_le (a : Ac) (h : a.i ≤ 65536) : (actB a).length ≤ 11 := by
  unfold actB
  split
  · have := putL_le a.i.toNat (by omega); rw [List.length_cons]; omega
  · simp
end Go.Proofs.Ytngomogoicdjpaa.Msg
