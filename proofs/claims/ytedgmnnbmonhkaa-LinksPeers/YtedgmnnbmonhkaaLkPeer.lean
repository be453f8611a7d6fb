/- The peer of an interface: the program. -/
import Derived.Test.YtedgmnnbmonhkaaLkOf
import Derived.Test.YtedgmnnbmonhkaaLkCheck
set_option linter.unusedVariables false
namespace Go.Proofs.Ytedgmnnbmonhkaa.Lk
open Go.RowKit
open Go.Proofs.Ytedgmnnbmonhkaa.Addr (RowAt below2 below_drew below_new bset RowAt.lt RowAt.cell RowAt.frozen RowAt.below RowAt.drew RowAt.new RowAt.alloc cells2)
theorem find_idx (l : List Lk) (i : Int) : (findL l i = none ∧ idxL (fun x : Lk => decide (x.iface = i)) l = -1) ∨ ∃ (k : Nat) (h : k < l.length), findL l i = some l[k] ∧ idxL (fun x : Lk => decide (x.iface = i)) l = (k : Int) := by
  induction l with
  | nil => exact .inl ⟨rfl, rfl⟩
  | cons s l ih =>
    by_cases hs : s.iface = i
    · right
      refine ⟨0, by simp, ?_, ?_⟩
      · unfold findL; simp [hs]
      · unfold idxL; simp [List.findIdx?_cons, hs]
    · rcases ih with ⟨h1, h2⟩ | ⟨k, hk, h1, h2⟩
      · left
        refine ⟨by unfold findL at h1 ⊢; rw [List.find?_cons_of_neg (by simpa using hs)]; exact h1, ?_⟩
        unfold idxL at h2 ⊢
        rw [List.findIdx?_cons]
        simp only [hs, decide_false, Bool.false_eq_true, if_false]
        cases hf : l.findIdx? (fun x : Lk => decide (x.iface = i)) with
        | none => rfl
        | some k => rw [hf] at h2; simp only at h2; omega
      · right
        refine ⟨k + 1, by simpa using hk, by unfold findL at h1 ⊢; rw [List.find?_cons_of_neg (by simpa using hs)]; exact h1, ?_⟩
        unfold idxL at h2 ⊢
        rw [List.findIdx?_cons]
        simp only [hs, decide_false, Bool.false_eq_true, if_false]
        cases hf : l.findIdx? (fun x : Lk => decide (x.iface = i)) with
        | none => rw [hf] at h2; simp only at h2; omega
        | some j => rw [hf] at h2; simp only [Option.map_some] at h2 ⊢; omega
set_option maxHeartbeats 4000000 in
set_option maxRecDepth 20000 in
theorem peer_any (l : List Lk) (v : Value) (i : Int) (w : World) (hl : HasLks w v l) :
    Calls Try.prog 15 #[v, .int .i64 i] w fun e w' => e = .returned (.tuple #[.int .i64 (peerL l i).1, .int .i64 (peerL l i).2]) ∧ Below w.heap.size w w' := by
  obtain ⟨o, c, rfl, hc1, hc2⟩ := HasRow.slice hl
  have cc := fun W (hb : Below w.heap.size w W) => check_any l _ W (hl.keep hb)
  have ci := fun W (hb : Below w.heap.size w W) (g : Nat) (hg : W.cell? ⟨g, 0, none⟩ = some (.int .i64 i)) (hlt : g < W.heap.size) => idxOf_any l _ i g W (hl.keep hb) hg hlt
  have co := fun W => of_any i W
  have HR : Hid (∀ wr : World, Below w.heap.size w wr → HasLks wr (.slice o l.length c) l) := fun wr hb => hl.keep hb
  obtain ⟨R, hR⟩ : ∃ R, R = peerL l i := ⟨_, rfl⟩
  have HP : Hid (R = if okL l then (match findL l i with | some s => ((s.peer, 0) : Int × Int) | none => (0, 3)) else (0, 2)) := hR
  rw [← hR]
  have hck : checkL l = if okL l then 0 else 2 := rfl
  rw [hck] at cc
  have hf := find_idx l i
  clear hR hck hl
  cases hok : okL l
  · rw [hok] at cc HP
    have HV : Hid (R = (0, 2)) := HP.out
    simp only [Bool.false_eq_true, if_false] at cc
    clear HP hf
    go_enter Try.func15, Try.ntmps15
    go_wp2_with fail
    go_at_call 12; refine (cc _ (Below.refl _ _)).mono ?_; rintro e w1 ⟨rfl, hb1⟩
    go_wp2_with fail
    go_ret2
    exact ⟨by rw [HV.out]; rfl, hb1⟩
  · rw [hok] at cc HP
    simp only [if_true] at cc
    rcases hf with ⟨h1, h2⟩ | ⟨k, hk, h1, h2⟩
    · have HV : Hid (R = (0, 3)) := by have := HP.out; rw [h1] at this; exact this
      rw [h2] at ci
      clear HP h1 h2
      go_enter Try.func15, Try.ntmps15
      go_wp2_with fail
      go_at_call 12; refine (cc _ (Below.refl _ _)).mono ?_; rintro e w1 ⟨rfl, hb1⟩
      go_wp2_with fail
      go_at_call 23; refine (co _).mono ?_; rintro e w2 ⟨rfl, hw2⟩
      have hb2 : Below w.heap.size w w2 := by rw [hw2]; exact below_new hb1 _
      have r2 : RowAt w2 w1.heap.size [.int .i64 i] 3 := by rw [hw2]; exact RowAt.new _ _ _
      clear hw2
      generalize w1.heap.size = g at r2 ⊢
      go_wp2_with fail
      go_at_call 24; refine (ci _ hb2 g (r2.cell 0) r2.lt).mono ?_; rintro e w3 ⟨rfl, hb3⟩
      go_wp2_with fail
      go_ret2
      exact ⟨by rw [HV.out]; rfl, below2 hb2 hb3⟩
    · have HV : Hid (R = (l[k].peer, 0)) := by have := HP.out; rw [h1] at this; exact this
      rw [h2] at ci
      have hki : (k : Int) < (l.length : Int) := by omega
      have hkn : decide ((k : Int) < 0) = false := decide_eq_false (by omega)
      clear HP h1 h2
      go_enter Try.func15, Try.ntmps15
      go_wp2_with fail
      go_at_call 12; refine (cc _ (Below.refl _ _)).mono ?_; rintro e w1 ⟨rfl, hb1⟩
      go_wp2_with fail
      go_at_call 23; refine (co _).mono ?_; rintro e w2 ⟨rfl, hw2⟩
      have hb2 : Below w.heap.size w w2 := by rw [hw2]; exact below_new hb1 _
      have r2 : RowAt w2 w1.heap.size [.int .i64 i] 3 := by rw [hw2]; exact RowAt.new _ _ _
      clear hw2
      generalize w1.heap.size = g at r2 ⊢
      go_wp2_with fail
      go_at_call 24; refine (ci _ hb2 g (r2.cell 0) r2.lt).mono ?_; rintro e w3 ⟨rfl, hb3⟩
      have hb4 := below2 hb2 hb3
      obtain ⟨g1, i1, rfl, hg1, a0, a1⟩ := HasLks.cell (HR.out _ hb4) k hk
      clear HR ci cc co
      generalize l[k].peer = pp at *
      go_wp2_with fail
      go_ret2
      exact ⟨by rw [HV.out]; rfl, hb4⟩
end Go.Proofs.Ytedgmnnbmonhkaa.Lk
