/- For every links and router: spoorlaw16.LinksPeers returns true, and changes nothing that was there. No condition. -/
import Derived.Test.YtedgmnnbmonhkaaRows
import Derived.Test.YtedgmnnbmonhkaaLkLives
import Derived.Test.YtedgmnnbmonhkaaLkOpen
import Derived.Test.YtedgmnnbmonhkaaLkFoundM
import Derived.ProofKit
import Derived.OpenShut
import Derived.ShutString
import Derived.SizedLaws
set_option linter.unusedVariables false
namespace Go.Proofs.Ytedgmnnbmonhkaa
namespace linksPeers
open Go.ChangeShapes Go.WideShapes Go.ChangeAt Go.RowKit
open Go.ChangeMaps (open_string shut_string)
open Go.Proofs.Ytedgmnnbmonhkaa.Lk
open Go.Proofs.Ytedgmnnbmonhkaa.Addr (RowAt below2 below_drew below_new bset RowAt.lt RowAt.cell RowAt.frozen RowAt.below RowAt.drew RowAt.new RowAt.alloc cells2)
theorem own : ownKnob Try.prog.godebug = none := by kernel_rfl
theorem laidOut : laidOutB Try.prog = true := by kernel_rfl
theorem any_snoc {α : Type} (f : α → Bool) (p : List α) (k : Nat) (h : k < p.length) : (p.take (k + 1)).any f = ((p.take k).any f || f p[k]) := by
  rw [List.take_add_one, List.getElem?_eq_getElem h, List.any_append]
  simp
theorem any_same (l : List Lk) (r : Int) : (peersL l).any (fun n => n == r) = l.any (fun s => s.peer == r) := by
  rw [Bool.eq_iff_iff, List.any_eq_true, List.any_eq_true]
  constructor
  · rintro ⟨n, h1, h2⟩
    obtain ⟨s, h3, h4⟩ := (peers_mem l n).1 h1
    exact ⟨s, h3, by rw [h4]; exact h2⟩
  · rintro ⟨s, h1, h2⟩
    exact ⟨s.peer, (peers_mem l s.peer).2 ⟨s, h1, rfl⟩, h2⟩
set_option maxHeartbeats 16000000 in
set_option maxRecDepth 20000 in
theorem walk (v : Value) (l : List Lk) (r : Int) (w : World) (b0 : HasLks w v l) (f0 : ∀ s ∈ l, FitL s) (b2 : -9223372036854775808 ≤ r ∧ r ≤ 9223372036854775807) :
    Calls Try.prog 6 #[v, .int .i64 r] w fun e w' => e = .returned (.bool true) ∧ Below w.heap.size w w' := by
  have c0 := fun (W : World) => lives_any W
  have c1 := fun (W : World) (h : HasLks W v l) => peers_any l v W h
  obtain ⟨o, c, rfl, hc1, hc2⟩ := HasRow.slice b0
  have hck : checkL l = if okL l then 0 else 2 := rfl
  rw [hck] at c1
  cases hok : okL l
  · have hP : peersO l = [] := by unfold peersO; rw [hok]; rfl
    rw [hok] at c1
    simp only [Bool.false_eq_true, if_false] at c1
    rw [hP] at c1
    clear hP hck f0
    have hnil : ∀ (W : World) u, HasInts W u [] → ∃ o c, u = .slice o 0 c := fun W u h => by obtain ⟨o, c, e, _, _⟩ := HasRow.slice h; exact ⟨o, c, e⟩
    go_enter Try.func6, Try.ntmps6
    go_wp2_with fail
    go_at_call 11; refine (c0 _).mono ?_; rintro e w1 ⟨rfl, hb1⟩
    replace b0 := b0.keep hb1
    go_wp2_with fail
    go_at_call 17; refine (c1 _ b0).mono ?_; rintro e w2 ⟨u2, rfl, h2, hb2⟩
    obtain ⟨o2, cp2, rfl⟩ := hnil _ _ h2
    go_wp2_with fail
    go_ret
    exact ⟨rfl, below2 hb1 hb2⟩
  have hlen := okL_len2 hok
  have hP : peersO l = peersL l := by unfold peersO; rw [hok]; rfl
  rw [hok, hP] at c1
  simp only [if_true] at c1
  have HC : Hid (∀ k (h : k < l.length) (W : World), HasLks W (.slice o l.length c) l → Calls Try.prog 15 #[.slice o l.length c, .int .i64 l[k].iface] W fun e w' => e = .returned (.tuple #[.int .i64 l[k].peer, .int .i64 0]) ∧ Below W.heap.size W w') := fun k h W hW => by
    have := peer_any l _ l[k].iface W hW
    have hp : peerL l l[k].iface = (l[k].peer, 0) := by unfold peerL; rw [hok, if_pos rfl, find_mem (okL_up hok) (List.getElem_mem h)]
    rw [hp] at this
    exact this
  have HU : Hid ((peersL l).Pairwise (· < ·)) := peers_up l
  have HE : Hid ((peersL l).any (fun n => n == r) = l.any (fun s => s.peer == r)) := any_same l r
  have hpl := peers_len l
  generalize peersL l = p at *
  obtain ⟨n, hn⟩ : ∃ n, n = l.length := ⟨_, rfl⟩
  have HN : Hid (n = l.length) := hn
  obtain ⟨m, hm⟩ : ∃ m, m = p.length := ⟨_, rfl⟩
  have HM : Hid (m = p.length) := hm
  have hs : ∀ (W : World) u, HasInts W u p → ∃ o c, u = .slice o m c := fun W u h => by obtain ⟨o, c, e, _, _⟩ := HasRow.slice h; exact ⟨o, c, by rw [hm]; exact e⟩
  rw [← hn] at hc1 hlen b0 c1 hpl ⊢
  rw [← hm] at hpl
  have hni : (n : Int) ≤ 32 := by omega
  have hmi : (m : Int) ≤ (n : Int) := by omega
  clear f0 hP hck hn hm
  go_enter Try.func6, Try.ntmps6
  go_wp2_with fail
  go_at_call 11; refine (c0 _).mono ?_; rintro e w1 ⟨rfl, hb1⟩
  replace b0 := b0.keep hb1
  clear c0
  go_wp2_with fail
  go_at_call 17; refine (c1 _ b0).mono ?_; rintro e w2 ⟨u2, rfl, h2, hb2⟩
  replace b0 := b0.keep hb2
  obtain ⟨o2, cp2, rfl⟩ := hs _ _ h2
  have hB := below2 hb1 hb2
  clear hs hb1 hb2 c1
  have HR : Hid (HasInts w2 (.slice o2 m cp2) p) := h2
  have HL : Hid (∀ W : World, Below w2.heap.size w2 W → HasLks W (.slice o n c) l) := fun W hb => b0.keep hb
  clear h2 b0
  go_wp2_with fail
  go_loopw [7, 29] (fun u q wr => wr = w2 ∧ ∃ k : Nat, k ≤ m ∧ q = .int .i64 k ∧ u = .bool ((p.take k).any (fun n => n == r))) (fun _ q _ => m - (Go.RowKit.intOf q).toNat)
  case atStart => exact ⟨rfl, 0, by omega, rfl, rfl⟩
  case round =>
    obtain ⟨rfl, k, hk, rfl, rfl⟩ := hrel
    by_cases hlt : k < m
    · have hkz : k < p.length := by rw [← HM.out]; exact hlt
      obtain ⟨g1, i1, rfl, hg1, a0⟩ := HasInts.cell (l := p) (by have := HR.out; rw [HM.out] at this; exact this) k hkz
      have hki : (k : Int) < (m : Int) := by omega
      have HA : Hid ((p.take (k + 1)).any (fun n => n == r) = ((p.take k).any (fun n => n == r) || (p[k] == r))) := any_snoc _ p k hkz
      have HQ : Hid (∀ h : 0 < k, wr.cell? ⟨g1, i1 + (k - 1), none⟩ = some (.int .i64 (p[k - 1]'(by omega))) ∧ p[k - 1]'(by omega) < p[k]) := fun h => by
        obtain ⟨g3, i3, e3, _, a3⟩ := HasInts.cell (l := p) (by have := HR.out; rw [HM.out] at this; exact this) (k - 1) (by omega)
        injection e3 with e3
        injection e3 with e31 e32
        subst e31 e32
        exact ⟨a3, List.pairwise_iff_getElem.1 HU.out (k - 1) k (by omega) hkz (by omega)⟩
      generalize hB1 : (p.take k).any (fun n => n == r) = B1 at HA ⊢
      generalize hpk : p[k] = pk at HA HQ a0
      by_cases hk0 : 0 < k
      · obtain ⟨a3, hlt3⟩ := HQ.out hk0
        generalize p[k - 1]'(by omega) = pq at a3 hlt3
        have hsub : (k : Int) - 1 = ((k - 1 : Nat) : Int) := by omega
        have hlt1 : ((k - 1 : Nat) : Int) < (m : Int) := by omega
        have hkp : (0 : Int) < (k : Int) := by omega
        have hge : decide (pk ≤ pq) = false := decide_eq_false (by omega)
        clear HQ hk0
        cases B1
        · have HF : Hid ((p.take (k + 1)).any (fun n => n == r) = (pk == r)) := by show _ = _; rw [HA.out]; rfl
          clear HA hB1 hpk
          go_wp2_with fail
          go_roundw
          case rel => exact ⟨by first | rfl | trivial | assumption, k + 1, by omega, by go_num, by rw [HF.out]⟩
          case measure => simp [Go.RowKit.intOf]; omega
        · have HF : Hid ((p.take (k + 1)).any (fun n => n == r) = true) := by show _ = _; rw [HA.out]; rfl
          clear HA hB1 hpk
          go_wp2_with fail
          go_roundw
          case rel => exact ⟨by first | rfl | trivial | assumption, k + 1, by omega, by go_num, by rw [HF.out]⟩
          case measure => simp [Go.RowKit.intOf]; omega
      · have hkp : ¬ ((0 : Int) < (k : Int)) := by omega
        clear HQ hk0
        cases B1
        · have HF : Hid ((p.take (k + 1)).any (fun n => n == r) = (pk == r)) := by show _ = _; rw [HA.out]; rfl
          clear HA hB1 hpk
          go_wp2_with fail
          go_roundw
          case rel => exact ⟨by first | rfl | trivial | assumption, k + 1, by omega, by go_num, by rw [HF.out]⟩
          case measure => simp [Go.RowKit.intOf]; omega
        · have HF : Hid ((p.take (k + 1)).any (fun n => n == r) = true) := by show _ = _; rw [HA.out]; rfl
          clear HA hB1 hpk
          go_wp2_with fail
          go_roundw
          case rel => exact ⟨by first | rfl | trivial | assumption, k + 1, by omega, by go_num, by rw [HF.out]⟩
          case measure => simp [Go.RowKit.intOf]; omega
    · have hkn : decide ((k : Int) < (m : Int)) = false := decide_eq_false (by omega)
      have hte : p.take k = p := by have := HM.out; exact List.take_of_length_le (by omega)
      rw [hte, HE.out]
      obtain ⟨IS, hIS⟩ : ∃ IS, IS = l.any (fun s => s.peer == r) := ⟨_, rfl⟩
      have HIS : Hid (IS = l.any (fun s => s.peer == r)) := hIS
      rw [← hIS]
      clear hte hIS
      obtain ⟨wA, hA⟩ : ∃ wA, wA = wr := ⟨_, rfl⟩
      rw [← hA] at HL hB ⊢
      clear hA
      go_upto_region 14 with fail
      go_wp2_with fail
      go_loopw [8, 54] (fun u q wr => ∃ k : Nat, k ≤ n ∧ q = .int .i64 k ∧ u = .bool ((l.take k).any (fun s => s.peer == r)) ∧ Below wA.heap.size wA wr) (fun _ q _ => n - (Go.RowKit.intOf q).toNat)
      case atStart => exact ⟨0, by omega, rfl, rfl, Below.refl _ _⟩
      case round =>
        obtain ⟨k, hk, rfl, rfl, hbr⟩ := hrel
        by_cases hlt : k < n
        · have hkz : k < l.length := by rw [← HN.out]; exact hlt
          obtain ⟨g1, i1, rfl, hg1, a0, a1⟩ := HasLks.cell (HL.out _ hbr) k hkz
          have hki : (k : Int) < (n : Int) := by omega
          have HA : Hid ((l.take (k + 1)).any (fun s => s.peer == r) = ((l.take k).any (fun s => s.peer == r) || (l[k].peer == r))) := any_snoc _ l k hkz
          have cp := fun W (hb : Below wA.heap.size wA W) => HC.out k hkz W (by have := HL.out W hb; rw [HN.out] at this; exact this)
          rw [← HN.out] at cp
          generalize hB1 : (l.take k).any (fun s => s.peer == r) = B1 at HA ⊢
          generalize l[k].iface = ra at *
          generalize l[k].peer = rb at *
          go_upto_region 17 with fail
          obtain ⟨X, hX⟩ : ∃ X, X = wr.alloc (.cells #[.int .i64 ra, .int .i64 rb] 24) := ⟨_, rfl⟩
          have hbX : Below wr.heap.size wr X := by rw [hX]; exact below_new (Below.refl _ _) _
          have r0 : RowAt X wr.heap.size [.int .i64 ra, .int .i64 rb] 24 := by rw [hX]; exact RowAt.new _ _ _
          rw [← hX]
          have hbA := below2 hbr hbX
          clear hX hbX a0 a1 hbr
          generalize wr.heap.size = gs at r0 ⊢
          obtain ⟨y0, y1, yf⟩ := cells2 r0
          go_wp2_with fail
          go_at_call 15; refine (cp _ hbA).mono ?_; rintro e w3 ⟨rfl, hb3⟩
          replace r0 := RowAt.below r0 hb3
          have hbC := below2 hbA hb3
          clear y0 y1 yf hb3 hbA cp
          obtain ⟨y0, y1, yf⟩ := cells2 r0
          have hnn : ((rb : Int) != rb) = false := by simp
          cases B1
          · have HF : Hid ((l.take (k + 1)).any (fun s => s.peer == r) = (rb == r)) := by show _ = _; rw [HA.out]; rfl
            clear HA hB1
            go_wp2_with fail
            go_roundw
            case rel => exact ⟨k + 1, by omega, by go_num, by rw [HF.out], hbC⟩
            case measure => simp [Go.RowKit.intOf]; omega
          · have HF : Hid ((l.take (k + 1)).any (fun s => s.peer == r) = true) := by show _ = _; rw [HA.out]; rfl
            clear HA hB1
            go_wp2_with fail
            go_roundw
            case rel => exact ⟨k + 1, by omega, by go_num, by rw [HF.out], hbC⟩
            case measure => simp [Go.RowKit.intOf]; omega
        · have hkn2 : decide ((k : Int) < (n : Int)) = false := decide_eq_false (by omega)
          have hte : l.take k = l := by have := HN.out; exact List.take_of_length_le (by omega)
          rw [hte, ← HIS.out]
          clear hte
          have hle : decide ((m : Int) ≤ (n : Int)) = true := decide_eq_true hmi
          have hF := below2 hB hbr
          clear hbr hB
          cases IS
          · go_wp2_with fail
            go_ret
            exact ⟨rfl, hF⟩
          · go_wp2_with fail
            go_ret
            exact ⟨rfl, hF⟩
set_option maxRecDepth 100000 in
theorem lifted (os : Os) (started : os.Started) (H : Type) (enc : TypeId × Value → H) :
    ReturnsInHanded {} Try.checked os 6 .any (Rows.linksPeersSpec.pre6 enc Try.prog Try.f6 Rows.linksPeersRow.domain false) (Rows.linksPeersSpec.post enc Try.prog Try.f6 false true false false) := by
  refine returnsInHanded_of_change_sized (C := Try.checked) own started (by kernel_rfl) Try.func6
    (ChangeSpec.witness6 (enc := enc) (C := Try.checked) false ⟨#[], #[.slice none 0 0, .int .i64 0], []⟩ 8 (by kernel_rfl) (by kernel_rfl) (by kernel_rfl) (by kernel_rfl)) ?_
  intro W base args ds gs before hval0 hW _ hsz0 _
  have hsz : (DataW.weightsEach Try.prog (Try.f6.params.toList ++ Rows.linksPeersSpec.plain.varTypes Try.prog) (ds ++ gs)).all (· ≤ reachBytes) = true := hsz0
  clear hsz0
  have hval : ∀ (j : Nat) t v, Try.f6.params[j]? = some t → args[j]? = some v → Value.okWide Try.prog W .any base t v := hval0
  have hW' := hW
  obtain ⟨p, q, hA0, hV, rfl, hfz, hnd⟩ := hW
  have hA : DataW.TrodAll enc Try.prog W 0 (fun _ => true) true Try.f6.params.toList args.toList ds p := hA0
  rw [Try.params6] at hA hval hsz
  obtain ⟨v0, vs0, d0, ds0, p0, q0, hargs, rfl, rfl, h0, r0⟩ := trodAll_cons hA
  obtain ⟨v1, vs1, d1, ds1, p1, q1, rfl, rfl, rfl, h1, r1⟩ := trodAll_cons r0
  obtain ⟨rfl, rfl, rfl⟩ := trodAll_nil r1
  obtain rfl : args = #[v0, v1] := by cases args; simp_all
  obtain ⟨rfl, rfl⟩ := trodVars_none hV
  obtain ⟨a0, len0, cap0, rfl⟩ := okWide_slice Try.underlying22 (hval 0 22 v0 rfl rfl)
  have k0 := h0
  have lt0 : ∀ x ∈ p0, x.block < W.heap.size := by obtain ⟨m, hm⟩ := k0; exact DataW.trod_lt m _ _ _ hm
  obtain ⟨fuel0, hf0⟩ := h0
  obtain ⟨z0, b0, f0⟩ := Lk.open_links hf0
  obtain ⟨a1, rfl, rfl, rfl, w1⟩ := open_int Try.underlying3 (hval 1 3 v1 rfl rfl) h1
  have b1 : -9223372036854775808 ≤ a1 ∧ a1 ≤ 9223372036854775807 := by simpa [Lit.wf, IntKind.min, IntKind.max, IntKind.signed, IntKind.bits] using w1
  clear hA0 hval0
  refine (walk (.slice a0 len0 cap0) z0 a1 W b0 f0 b1).mono fun e W' ⟨he, bel⟩ => ?_
  subst he
  exact ⟨_, rfl, _, _, _, [], _, [], hW', trodAll_mk1 (shut_bool Try.underlying4 _), (trodAll_cons_mk (Below.trod laidOut (by kernel_rfl) (of_decide_eq_true (by kernel_rfl)) k0 bel lt0) (trodAll_cons_mk (shut_int Try.underlying3 w1) trodAll_mk0)), rfl, bel.frame _, fun h => by cases h⟩

theorem over : Rows.linksPeersRow.holds Try.pinned (OpenSpec.ofChange Rows.linksPeersSpec) :=
  OpenClaim.holds_of_wide 6 Try.f6 rfl rfl rfl rfl rfl rfl rfl ⟨rfl, rfl, rfl, rfl, rfl⟩ rfl rfl rfl rfl rfl (by kernel_rfl) Try.func6 (by kernel_rfl)
    (of_decide_eq_true (by kernel_rfl)) (by unfold Func.isWrapper; first | (rw [if_pos (by decide +kernel)]; kernel_rfl) | (rw [if_neg (by decide +kernel)]; exact ⟨rfl, rfl⟩))
    (fun os started H enc _ => lifted os started H enc)
end linksPeers
theorem lpeers_holds : Rows.LinksPeersSaid := linksPeers.over
#print axioms lpeers_holds
end Go.Proofs.Ytedgmnnbmonhkaa
