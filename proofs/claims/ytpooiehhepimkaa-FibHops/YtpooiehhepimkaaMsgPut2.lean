/- What partsBytes, Put, PutPrefix and PutAction return. -/
import Derived.Test.YtpooiehhepimkaaMsgPut
import Derived.Test.YtpooiehhepimkaaMsgChk3
set_option linter.unusedVariables false
namespace Go.Proofs.Ytpooiehhepimkaa.Msg
open Go.RowKit
open Go.Proofs.Ytpooiehhepimkaa.Addr (Pf okP checkP wideN firstN kP hiN loN adV pfV RowAt below2 below_drew below_new bset RowAt.lt RowAt.cell RowAt.frozen RowAt.below RowAt.drew RowAt.new RowAt.alloc gdrew gset gbelow galloc grefl cells2 cells4 results_cell Bl bl_ne wp_region_bl bl_call bl_same)

/-- the bytes of an event that are of its kind alone -/
def restB (e : Ev) : List UInt8 := if e.kind = 3 then prefB e.pf ++ actB e.act else if e.kind = 4 then prefB e.pf else if e.kind = 5 then putL e.iface.toNat ++ putL e.peer.toNat else if e.kind = 6 then putL e.iface.toNat else []
def evB (e : Ev) : List UInt8 := [UInt8.ofNat e.kind] ++ putL e.router.toNat ++ putL e.seq ++ putL e.time.toNat ++ restB e
theorem okE_bd {e : Ev} (h : okE e = true) : ((1 ≤ e.kind ∧ e.kind ≤ 6) ∧ (0 ≤ e.router ∧ e.router ≤ 1048576) ∧ (1 ≤ e.seq ∧ e.seq ≤ 1099511627776) ∧ (0 ≤ e.time ∧ e.time ≤ 1099511627776)) ∧ (okP e.pf = true ∧ (0 ≤ e.iface ∧ e.iface ≤ 65536) ∧ (0 ≤ e.peer ∧ e.peer ≤ 1048576) ∧ (e.kind = 3 → okA e.act = true)) ∧ unN e = zeroE := by
  unfold okE headB partsB at h
  simp only [Bool.and_eq_true, decide_eq_true_eq, Bool.or_eq_true, and_assoc] at h
  obtain ⟨h1, h2, h3, h4, h5, h6, h7, h8, h9, h10, h11, h12, h13, h14, h15⟩ := h
  refine ⟨⟨⟨h1, h2⟩, ⟨h3, h4⟩, ⟨h5, h6⟩, ⟨h7, h8⟩⟩, ⟨h9, ⟨h10, h11⟩, ⟨h12, h13⟩, fun hk => ?_⟩, (eqE_iff _ _).1 h15⟩
  rcases h14 with h | h
  · exact absurd hk h
  · exact h
theorem prefB_le (p : Pf) : (prefB p).length ≤ 18 := by
  unfold prefB
  rw [List.length_append, List.length_take, be_len]
  have : wB p.six ≤ 16 := by cases p.six <;> decide
  simp only [List.length_cons, List.length_nil]
  omega
theorem actB_le (a : Ac) (h : a.i ≤ 65536) : (actB a).length ≤ 11 := by
  unfold actB
  split
  · have := putL_le a.i.toNat (by omega); rw [List.length_cons]; omega
  · simp
end Go.Proofs.Ytpooiehhepimkaa.Msg
