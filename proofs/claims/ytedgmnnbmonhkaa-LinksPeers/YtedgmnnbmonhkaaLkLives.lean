/- spoorlaw16.lives. -/
import Derived.Test.YtedgmnnbmonhkaaLkPeers
import Derived.Test.YtedgmnnbmonhkaaLkPut
import Derived.Test.YtedgmnnbmonhkaaLkPeer
import Derived.Test.YtedgmnnbmonhkaaLkDelA
set_option linter.unusedVariables false
namespace Go.Proofs.Ytedgmnnbmonhkaa.Lk
open Go.RowKit
open Go.Proofs.Ytedgmnnbmonhkaa.Addr (RowAt below2 below_drew below_new bset RowAt.lt RowAt.cell RowAt.frozen RowAt.below RowAt.drew RowAt.new RowAt.alloc cells2)
def l1 : List Lk := [⟨3, 7⟩]
def l2 : List Lk := [⟨1, 9⟩, ⟨3, 7⟩]
def l3 : List Lk := [⟨1, 9⟩, ⟨3, 7⟩, ⟨4, 7⟩]
def l4 : List Lk := [⟨3, 7⟩, ⟨4, 7⟩]
theorem lit_row (W : World) (cs : List Value) (e sz n : Nat) (h : cs.length = n * sz) (hn : n ≤ 1000) : HasRow (W.alloc (.cells cs.toArray e)) (.slice (some ⟨W.heap.size, 0, none⟩) n n) sz n cs :=
  ⟨h, .inr ⟨_, n, rfl, Nat.le_refl _, by omega, fun _ => ⟨rfl, by simp⟩, fun j hj => by
    have hc := RowAt.cell (RowAt.new W cs e) j
    rw [addr_add, Nat.zero_add]
    exact hc⟩⟩
theorem lit_l3 (W : World) : HasLks (W.alloc (.cells #[.int .i64 1, .int .i64 9, .int .i64 3, .int .i64 7, .int .i64 4, .int .i64 7] 24)) (.slice (some ⟨W.heap.size, 0, none⟩) 3 3) l3 := lit_row W (lkCs l3) _ 2 3 rfl (by decide)
theorem lit_p (W : World) : HasInts (W.alloc (.cells #[.int .i64 7, .int .i64 9] 3)) (.slice (some ⟨W.heap.size, 0, none⟩) 2 2) [7, 9] := lit_row W (intCs [7, 9]) _ 1 2 rfl (by decide)
set_option maxHeartbeats 8000000 in
set_option maxRecDepth 20000 in
theorem lives_any (w : World) : Calls Try.prog 11 #[] w fun e w' => e = .returned (.bool true) ∧ Below w.heap.size w w' := by
  have c1 := fun (W : World) => put_any [] (.slice none 0 0) ⟨3, 7⟩ W (hasRow_nil W 2)
  have c2 := fun (W : World) v => put_any l1 v ⟨1, 9⟩ W
  have c3 := fun (W : World) v => put_any l2 v ⟨4, 7⟩ W
  have c4 := fun (W : World) v => peer_any l3 v 3 W
  have c5 := fun (W : World) v => peer_any l3 v 2 W
  have c6 := fun (W : World) v => peers_any l3 v W
  have c7 := fun (W : World) v => del_any l3 v 1 W
  have c8 := fun (W : World) v => del_any l4 v 1 W
  have c9 := fun (W : World) v => put_any l3 v ⟨-1, 0⟩ W
  have c10 := fun (W : World) v => check_any l3 v W
  rw [show putL [] ⟨3, 7⟩ = (l1, 0) by rfl] at c1
  rw [show putL l1 ⟨1, 9⟩ = (l2, 0) by rfl] at c2
  rw [show putL l2 ⟨4, 7⟩ = (l3, 0) by rfl] at c3
  rw [show peerL l3 3 = (7, 0) by rfl] at c4
  rw [show peerL l3 2 = (0, 3) by rfl] at c5
  rw [show peersO l3 = [7, 9] by rfl, show checkL l3 = 0 by rfl] at c6
  rw [show delL l3 1 = (l4, 0) by rfl] at c7
  rw [show delL l4 1 = (l4, 3) by rfl] at c8
  rw [show putL l3 ⟨-1, 0⟩ = ([], 2) by rfl] at c9
  rw [show checkL l3 = 0 by rfl] at c10
  have cs := fun (W : World) v u => same_any l3 v u W
  have ca := fun (W : World) v u => alike_any [7, 9] v u W
  have hs3 : ∀ (W : World) v, HasLks W v l3 → ∃ o c, v = .slice o 3 c := fun W v h => by obtain ⟨o, c, e, _, _⟩ := HasRow.slice h; exact ⟨o, c, e⟩
  have hs4 : ∀ (W : World) v, HasLks W v l4 → ∃ o c, v = .slice o 2 c := fun W v h => by obtain ⟨o, c, e, _, _⟩ := HasRow.slice h; exact ⟨o, c, e⟩
  simp only at c1 c2 c3 c4 c5 c6 c7 c8 c9 c10
  go_enter Try.func11, Try.ntmps11
  go_wp2_with fail
  go_at_call 7; refine (c1 _).mono ?_; rintro e w1 ⟨u1, rfl, h1, hb1⟩
  go_wp2_with fail
  go_at_call 7; refine (c2 _ _ h1).mono ?_; rintro e w2 ⟨u2, rfl, h2, hb2⟩
  have hA := below2 hb1 hb2
  clear h1 hb1 hb2 c1 c2
  go_wp2_with fail
  go_at_call 7; refine (c3 _ _ h2).mono ?_; rintro e w3 ⟨u3, rfl, h3, hb3⟩
  replace hA := below2 hA hb3
  clear h2 hb3 c3
  go_wp2_with fail
  go_at_call 15; refine (c4 _ _ h3).mono ?_; rintro e w4 ⟨rfl, hb4⟩
  replace hA := below2 hA hb4
  replace h3 := h3.keep hb4
  clear hb4 c4
  go_wp2_with fail
  go_at_call 15; refine (c5 _ _ h3).mono ?_; rintro e w5 ⟨rfl, hb5⟩
  replace hA := below2 hA hb5
  replace h3 := h3.keep hb5
  clear hb5 c5
  go_wp2_with fail
  go_at_call 17; refine (c6 _ _ h3).mono ?_; rintro e w6 ⟨u6, rfl, h6, hb6⟩
  replace hA := below2 hA hb6
  replace h3 := h3.keep hb6
  clear hb6 c6
  go_wp2_with fail
  go_at_call 9; refine (c7 _ _ h3).mono ?_; rintro e w7 ⟨u7, rfl, h7, hb7⟩
  replace hA := below2 hA hb7
  replace h3 := h3.keep hb7
  replace h6 := h6.keep hb7
  clear hb7 c7
  go_wp2_with fail
  go_at_call 9; refine (c8 _ _ h7).mono ?_; rintro e w8 ⟨u8, rfl, h8, hb8⟩
  replace hA := below2 hA hb8
  replace h3 := h3.keep hb8
  replace h6 := h6.keep hb8
  obtain ⟨o7, cp7, rfl⟩ := hs4 _ _ h7
  clear hb8 c8 h8 h7
  go_wp2_with fail
  go_at_call 7; refine (c9 _ _ h3).mono ?_; rintro e w9 ⟨u9, rfl, h9, hb9⟩
  replace hA := below2 hA hb9
  replace h3 := h3.keep hb9
  replace h6 := h6.keep hb9
  clear hb9 c9 h9
  have hbL : Below w9.heap.size w9 (w9.alloc (.cells #[.int .i64 1, .int .i64 9, .int .i64 3, .int .i64 7, .int .i64 4, .int .i64 7] 24)) := below_new (Below.refl _ _) _
  go_wp2_with fail
  go_at_call 14; refine (cs _ _ _ (h3.keep hbL) (lit_l3 w9)).mono ?_; rintro e w10 ⟨rfl, hb10⟩
  replace hA := below2 (below2 hA hbL) hb10
  replace h3 := (h3.keep hbL).keep hb10
  replace h6 := (h6.keep hbL).keep hb10
  clear hbL hb10 cs
  have hbL : Below w10.heap.size w10 (w10.alloc (.cells #[.int .i64 7, .int .i64 9] 3)) := below_new (Below.refl _ _) _
  go_wp2_with fail
  go_at_call 19; refine (ca _ _ _ (h6.keep hbL) (lit_p w10)).mono ?_; rintro e w11 ⟨rfl, hb11⟩
  replace hA := below2 (below2 hA hbL) hb11
  replace h3 := (h3.keep hbL).keep hb11
  clear hbL hb11 ca h6
  go_wp2_with fail
  go_at_call 12; refine (c10 _ _ h3).mono ?_; rintro e w12 ⟨rfl, hb12⟩
  replace hA := below2 hA hb12
  go_wp2_with fail
  go_ret
  exact ⟨rfl, hA⟩
end Go.Proofs.Ytedgmnnbmonhkaa.Lk
