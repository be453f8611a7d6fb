/- What the document's Held and Make of disks return. -/
import Derived.Test.YtbikcpchlgmoaaaDiskRef5
import Derived.Test.YtbikcpchlgmoaaaDiskOpen
set_option linter.unusedVariables false
namespace Go.Proofs.Ytbikcpchlgmoaaa.Disk
open Go.RowKit Go.Shelf
attribute [-go_sem] Builtin.append_

theorem getD_set' (S : List (List UInt8)) (k j : Nat) (z : List UInt8) (hk : k < S.length) : (S.set k z).getD j [] = if k = j then z else S.getD j [] := by
  rw [List.getD_eq_getElem?_getD, List.getD_eq_getElem?_getD, List.getElem?_set]
  by_cases h : k = j
  · subst h; rw [if_pos rfl, if_pos rfl, if_pos hk]; rfl
  · rw [if_neg h, if_neg h]
theorem snoc_ind {α : Type} {P : List α → Prop} (h0 : P []) (hs : ∀ l a, P l → P (l ++ [a])) : ∀ l, P l := by
  intro l
  rw [← List.reverse_reverse l]
  generalize l.reverse = r
  induction r with
  | nil => exact h0
  | cons a r ih => rw [List.reverse_cons]; exact hs _ _ ih
theorem holds_settle (secs : List (List UInt8)) (hw : ∀ z ∈ secs, z.length = 128) (ps : List PutT) : ∀ (hp : ∀ p ∈ ps, inB secs.length p.1 = true ∧ p.2.length = 128) (k : Nat), holdsL secs ps (k : Int) = (settleF wholeF 0 secs ps).getD k [] := by
  revert ps
  refine snoc_ind (fun _ k => by simp [holdsL, settleF]) ?_
  · intro ps p ih hp k
    have hp1 := hp p (by simp)
    have hall := settleF_all wholeF (fun _ => Nat.le_refl _) ps 0 secs hw (fun q hq => hp q (by simp [hq]))
    have hlen := settleF_len wholeF ps 0 secs
    have hin := hp1.1
    simp only [inB, decide_eq_true_eq] at hin
    obtain ⟨a, ha⟩ := Int.eq_ofNat_of_zero_le hin.1
    have hal : a < (settleF wholeF 0 secs ps).length := by rw [hlen]; omega
    rw [holdsL_snoc, settleF_snoc, ha, Int.toNat_natCast, getD_set' _ _ _ _ hal, ih (fun q hq => hp q (by simp [hq])) k]
    by_cases h : a = k
    · subst h
      rw [if_pos (by simp), if_pos rfl]
      exact (cutIn_full hp1.2 (hall _ (getD_mem hal))).symm
    · rw [if_neg (by simp; omega), if_neg h]
theorem append_one {W : World} {n₀ k : Nat} {v : Value} {xs : List Value} (Z : ByteArray) (hown : W.ownsRow n₀ 9 1 v k xs) (hk : k ≤ 1000000) (hn : n₀ ≤ W.heap.size) :
    ∃ g cap w3, (∀ ty, (Builtin.append_ #[22, 22] ty #[v, .slice (some ⟨W.heap.size, 0, none⟩) 1 1]).run Try.prog (W.alloc (.cells #[.string Z] 9)) = .ok (.slice (some ⟨g, 0, none⟩) (k + 1) cap) w3) ∧
      w3.ownsRow n₀ 9 1 (.slice (some ⟨g, 0, none⟩) (k + 1) cap) (k + 1) (xs ++ [.string Z]) ∧ (W.alloc (.cells #[.string Z] 9)).grownBy w3 v.ownBlock := by
  obtain ⟨i0, hi, hz0, hz1, hz2⟩ := info_parts info_str
  have h := fun ty => run_append_own (P := Try.prog) (W.alloc (.cells #[.string Z] 9)) n₀ 22 ty 9 i0 (.string ⟨#[]⟩) 1 16 Try.underlying22 hi hz0 hz1 hz2 rfl (by decide) v k xs (hown.alloc _) ⟨W.heap.size, 0, none⟩ 1 1 [.string Z] rfl
    (by intro j u hj; match j, hj with | 0, hj => simp at hj; subst hj; simp [Addr.add]) (by intro u hu; simp at hu; subst hu; rfl) (by unfold maxLen; omega) (by omega) (by simp; omega)
  obtain ⟨v', w3, hrun, h1, h2, h3⟩ := h 0
  obtain ⟨g, cap, rfl⟩ := ownsRow_succ h1
  exact ⟨g, cap, w3, fun ty => hrun, h1, h2⟩
theorem below_own {n : Nat} {w W W' : World} {m e size k : Nat} {v : Value} {xs : List Value} (h : Below n w W) (hn : n ≤ W.heap.size) (hnm : n ≤ m) (hr : W.ownsRow m e size v k xs) (hg : W.grownBy W' v.ownBlock) : Below n w W' :=
  h.grown hg hn (fun j ej => by
    rcases hr.2 with ⟨rfl, _⟩ | ⟨g, cap, cur, rfl, hb, _⟩
    · simp [Value.ownBlock] at ej
    · obtain rfl : g = j := by simpa [Value.ownBlock] using ej
      omega)
theorem own_keep' {w w' : World} {B e size n : Nat} {v : Value} {xs : List Value} (h : w.ownsRow B e size v n xs) (hb : Below w.heap.size w w') : w'.ownsRow B e size v n xs := by
  refine h.kept (row := none) ⟨hb.os, hb.tape, hb.output, hb.size, fun k hk _ => hb.block k hk⟩ ?_
  rcases h.2 with ⟨rfl, _⟩ | ⟨g, cap, cur, rfl, _⟩
  · exact .inl rfl
  · exact .inr (fun e => by simp [Value.ownBlock] at e)
theorem own_slice {W : World} {B e k : Nat} {v : Value} {xs : List Value} (h : W.ownsRow B e 1 v k xs) : ∃ o c, v = .slice o k c := by
  rcases h.2 with ⟨rfl, h0⟩ | ⟨g, cap, cur, rfl, _⟩
  · exact ⟨none, 0, by rw [h0]⟩
  · exact ⟨_, _, rfl⟩
set_option maxHeartbeats 2000000 in
theorem rheld_any (d : Dk) (v : Value) (w : World) (h : HasDk w v d) (hf : Fits d) :
    Calls Try.prog 74 #[v] w (StrsIs (heldD d) w) := by
  have cchk := fun W (hb : Below w.heap.size w W) => rcheck_any d v W (h.keep hb) hf
  have hdk := fun W (hb : Below w.heap.size w W) => h.keep hb
  obtain ⟨so, sc, co, cc, rfl, hs, hc⟩ := h.parts
  obtain ⟨_, _, _, hs1, hs2⟩ := HasRow.slice hs
  obtain ⟨X, hX⟩ : ∃ X, X = w.alloc (.cells #[.slice so d.secs.length sc, .slice co d.cache.length cc, .int .i64 d.fuse, .bool d.off] 25) := ⟨_, rfl⟩
  have vb : VBox X w.heap.size (.slice so d.secs.length sc) (.slice co d.cache.length cc) (.int .i64 d.fuse) (.bool d.off) := by rw [hX]; exact heap_alloc_new _ _
  have hB0 : Below w.heap.size w X := by rw [hX]; exact (Below.refl _ w).alloc (Nat.le_refl _) _
  have hXs : X.heap.size = w.heap.size + 1 := by rw [hX]; simp
  by_cases hok : okB d = true
  · have HK : Hid (Ok d) := ok_of hok
    have HR : Hid (heldD d = (settleF wholeF 0 d.secs d.cache, 0)) := by show _ = _; rw [heldD, if_pos hok]
    have HS : Hid (∀ k : Nat, holdsL d.secs d.cache (k : Int) = (settleF wholeF 0 d.secs d.cache).getD k []) := holds_settle d.secs HK.out.whole d.cache HK.out.puts
    have HL : Hid ((settleF wholeF 0 d.secs d.cache).length = d.secs.length) := settleF_len _ _ _ _
    rw [checkE_ok hok] at cchk
    have ch := fun (k : Nat) W (hb : Below w.heap.size w W) (hk : k < d.secs.length) => rholds_any k d _ W (hdk W hb) hk HK.out.many (by have := HK.out.few; omega)
    obtain ⟨A, hA⟩ : ∃ A, A = settleF wholeF 0 d.secs d.cache := ⟨_, rfl⟩
    rw [← hA] at HR HS HL
    obtain ⟨n, hn⟩ : ∃ n, n = d.secs.length := ⟨_, rfl⟩
    rw [← hn] at HL vb hX ch ⊢
    have hn2 : n ≤ 1024 := by rw [hn]; exact HK.out.many
    have HCH : Hid (∀ (k : Nat) W (hb : Below w.heap.size w W) (hk : k < n), Calls Try.prog 96 #[.agg #[.slice so n sc, .slice co d.cache.length cc, .int .i64 d.fuse, .bool d.off], .int .i64 (k : Int)] W fun e w' => e = .returned (strV (A.getD k [])) ∧ Below W.heap.size W w') := by
      intro k W hb hk
      have := ch k W hb hk
      rw [HS.out k] at this
      exact this
    rw [← hn] at cchk
    clear hA hn hok hs hc h hf hdk ch
    unfold StrsIs
    go_enter Try.func74, Try.ntmps74
    go_wp2_with fail
    rw [← hX]
    obtain ⟨k0, k1, k2, k3, kf⟩ := vb.cells
    go_at_call 35; refine (cchk X hB0).mono ?_; rintro e w1 ⟨rfl, hb⟩
    have vb1 := vb.below hb
    have hB1 := below2 hB0 hb
    clear k0 k1 k2 k3 kf hX vb cchk hB0
    obtain ⟨k0, k1, k2, k3, kf⟩ := vb1.cells
    go_wp2_with fail
    go_loopw [4, 12] (fun o i wr => ∃ (k : Nat) (V : Value), k ≤ n ∧ i = .int .i64 k ∧ o = V ∧ Hid (wr.ownsRow (w.heap.size + 1) 9 1 V k ((A.take k).map strV)) ∧ Below w.heap.size w wr ∧ VBox wr w.heap.size (.slice so n sc) (.slice co d.cache.length cc) (.int .i64 d.fuse) (.bool d.off) ∧ w.heap.size + 1 ≤ wr.heap.size) (fun _ i _ => n - (intOf i).toNat)
    case atStart => exact ⟨0, _, by omega, rfl, rfl, (World.ownsRow_nil _ _ _ _ : World.ownsRow _ _ _ _ _ _ _), hB1, vb1, by have := hb.size; omega⟩
    case round =>
      obtain ⟨k, V, hk, rfl, hV, HO, hB, vbr, hsz⟩ := hrel
      clear k0 k1 k2 k3 kf
      obtain ⟨k0, k1, k2, k3, kf⟩ := vbr.cells
      obtain ⟨oo, c4, rfl⟩ := own_slice HO.out
      subst hV
      by_cases hlt : k < n
      · have ch := HCH.out k wr hB hlt
        have HA : Hid (A.take (k + 1) = A.take k ++ [A.getD k []]) := by
          show _ = _
          rw [List.take_succ_eq_append_getElem (by rw [HL.out]; exact hlt), List.getD_eq_getElem?_getD, List.getElem?_eq_getElem (by rw [HL.out]; exact hlt)]; rfl
        unfold strV at ch
        generalize A.getD k [] = z at ch HA
        go_wp2_with fail
        go_at_call 96; refine ch.mono ?_; rintro e w2 ⟨rfl, hb2⟩
        have hB2 := below2 hB hb2
        have hs2' := hb2.size
        have hown2 := own_keep' HO.out hb2
        have vb2 := vbr.below hb2
        obtain ⟨g, cap, w3, hrun, hown3, hgrow⟩ := append_one (⟨z.toArray⟩) hown2 (by omega) (by omega)
        have hB3 : Below w.heap.size w w3 := below_own (hB2.alloc hB2.size _) (by have := hB2.size; simp; omega) (by omega) (hown2.alloc _) hgrow
        have vb3 : VBox w3 w.heap.size (.slice so n sc) (.slice co d.cache.length cc) (.int .i64 d.fuse) (.bool d.off) := (vb2.below ((Below.refl _ w2).alloc (Nat.le_refl _) _)).kept hgrow (by
          rcases hown2.2 with ⟨e, _⟩ | ⟨g', cap', cur, e, hg, _⟩
          · rw [e]; simp [Value.ownBlock]
          · rw [e]; simp [Value.ownBlock]; omega)
        have hs3 : w.heap.size + 1 ≤ w3.heap.size := by have := hgrow.size; simp at this; omega
        have HO3 : Hid (w3.ownsRow (w.heap.size + 1) 9 1 (.slice (some ⟨g, 0, none⟩) (k + 1) cap) (k + 1) ((A.take (k + 1)).map strV)) := by
          show World.ownsRow _ _ _ _ _ _ _
          rw [HA.out, List.map_append]
          exact hown3
        clear hown2 hown3 hgrow ch hb2 vb2 k0 k1 k2 k3 kf vbr
        go_wp2
        go_roundw
        case rel => exact ⟨k + 1, _, by omega, by go_num, rfl, HO3, hB3, vb3, hs3⟩
        case measure => simp [intOf]; omega
      · obtain rfl : k = n := by omega
        have HF : Hid (HasStrs wr (.slice oo k c4) A) := by
          have := hasRow_own HO.out
          rw [List.take_of_length_le (by rw [HL.out]; exact Nat.le_refl _)] at this
          unfold HasStrs
          rw [HL.out]
          exact this
        go_wp2
        go_ret2
        rw [HR.out]
        exact ⟨_, rfl, HF.out, hB⟩
  · have hok' : okB d = false := by simpa using hok
    have HR2 : Hid (heldD d = ([], 2)) := by show _ = _; rw [heldD, if_neg hok]
    rw [checkE_bad hok'] at cchk
    clear hok hok' hs hc h hf hdk
    unfold StrsIs
    go_enter Try.func74, Try.ntmps74
    go_wp2_with fail
    rw [← hX]
    go_at_call 35; refine (cchk X hB0).mono ?_; rintro e w1 ⟨rfl, hb⟩
    have hB1 := below2 hB0 hb
    clear hX
    go_wp2
    go_ret2
    rw [HR2.out]
    exact ⟨_, rfl, hasRow_nil _ _, hB1⟩
end Go.Proofs.Ytbikcpchlgmoaaa.Disk
