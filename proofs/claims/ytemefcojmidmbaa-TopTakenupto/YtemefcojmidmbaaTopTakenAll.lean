/- For all events, texts and horizons that together hold at most 1048576 values and letters (the second form): spoortop.TopTaken returns true, and changes nothing that was there. -/
import Derived.Test.YtemefcojmidmbaaGramTZ
import Derived.Test.YtemefcojmidmbaaOrdTZ
import Derived.Test.YtemefcojmidmbaaRows
import Derived.Test.YtemefcojmidmbaaBgnTZ
import Derived.Test.YtemefcojmidmbaaGramTB
import Derived.ProofKit
import Derived.OpenShut
import Derived.ShutString
import Derived.SizedLaws
set_option linter.unusedVariables false
namespace Go.Proofs.Ytemefcojmidmbaa.Gram
open Go.Proofs.Ytemefcojmidmbaa.Msg (Ev evV evC okE evB zeroE)
open Go.Proofs.Ytemefcojmidmbaa.Ord (St nextL askL misL okL okL_iff seatedL seatOf isIn findL find_seated next_zero)

def stE (h : Int) (s : List St × Nat) (e : Ev) : List St × Nat := if (nextL s.1 e h).2 = 0 then ((nextL s.1 e h).1, s.2 + 1) else s
def stG (h : Int) (s : List St × Nat) (g : GtT) : List St × Nat := if g.2 = 0 then stE h s g.1 else s
def noiG (N : List UInt8) : List GtT := if N = [] then [] else [(zeroE, 7)]
def glG (N : List UInt8) (es : List Ev) : List GtT := es.flatMap (fun e => [(e, 0), (e, 0)] ++ noiG N)
def strG (N : List UInt8) (es : List Ev) : List UInt8 := es.flatMap (fun e => wraps [e, e] ++ N)
theorem twice {l : List St} {e : Ev} {h : Int} (hy : (nextL l e h).2 = 0) : (nextL (nextL l e h).1 e h).2 ≠ 0 := by
  obtain ⟨h1, h2⟩ := next_zero hy
  have hok : okL l = true := by
    unfold askL at h1
    cases ho : okL l with
    | true => rfl
    | false => rw [ho] at h1; simp at h1
  have hup := ((okL_iff l).1 hok).2.2
  have hn : nextL l e h = (seatedL l ⟨e.router, e.seq, e.time, decide (e.kind ≠ 2)⟩, 0) := by unfold nextL; rw [if_pos h1, if_pos h2]
  rw [hn]
  simp only
  have hf := find_seated hup ⟨e.router, e.seq, e.time, decide (e.kind ≠ 2)⟩ e.router
  rw [if_pos rfl] at hf
  generalize seatedL l ⟨e.router, e.seq, e.time, decide (e.kind ≠ 2)⟩ = m at hf ⊢
  have hs : seatOf m e.router = ⟨e.router, e.seq, e.time, decide (e.kind ≠ 2)⟩ := by unfold seatOf; rw [hf]; rfl
  have hi : isIn m e.router = true := by unfold isIn; rw [hf]; rfl
  have hm : misL m e h = 12 := by
    unfold misL
    rw [hi, hs]
    rw [if_neg (by simp), if_pos (by simp only; omega)]
  unfold nextL
  by_cases ha : askL m e h = 0
  · rw [if_pos ha, if_neg (by rw [hm]; decide), hm]; show (12 : Int) ≠ 0; decide
  · rw [if_neg ha]; exact ha
theorem stE_twice (h : Int) (s : List St × Nat) (e : Ev) : stE h (stE h s e) e = stE h s e := by
  by_cases hy : (nextL s.1 e h).2 = 0
  · have e1 : stE h s e = ((nextL s.1 e h).1, s.2 + 1) := by unfold stE; rw [if_pos hy]
    have h2 := twice hy
    rw [e1]
    show (if (nextL (nextL s.1 e h).1 e h).2 = 0 then _ else _) = _
    rw [if_neg h2]
  · have e1 : stE h s e = s := by unfold stE; rw [if_neg hy]
    rw [e1, e1]
theorem noi_fold (N : List UInt8) (h : Int) (s : List St × Nat) : (noiG N).foldl (stG h) s = s := by
  unfold noiG
  split
  · rfl
  · rfl
theorem taken_eq (N : List UInt8) (h : Int) (es : List Ev) : ∀ s : List St × Nat, (glG N es).foldl (stG h) s = es.foldl (stE h) s := by
  induction es with
  | nil => intro s; rfl
  | cons e es ih =>
    intro s
    show (([(e, 0), (e, 0)] ++ noiG N) ++ glG N es).foldl (stG h) s = _
    rw [List.foldl_append, List.foldl_append, noi_fold, ih]
    show es.foldl (stE h) (stE h (stE h s e) e) = _
    rw [stE_twice]
    rfl
theorem strG_head (N : List UInt8) (es : List Ev) : strG N es = [] ∨ ∃ r, strG N es = 245 :: r := by
  cases es with
  | nil => exact .inl rfl
  | cons e es => exact .inr ⟨0 :: UInt8.ofNat (evB e).length :: (evB e ++ (wrapL (evB e) ++ N) ++ strG N es), by simp [strG, wraps, wrapL]⟩
theorem strG_snoc (N : List UInt8) (es : List Ev) (e : Ev) : strG N (es ++ [e]) = strG N es ++ (wraps [e, e] ++ N) := by simp [strG]
theorem gots_strG (N : List UInt8) (hN : ∀ b ∈ N, b ≠ 245) (es : List Ev) (h : ∀ e ∈ es, okE e = true) : (piecesL (strG N es)).map gotG = glG N es := by
  induction es with
  | nil => rfl
  | cons e es ih =>
    have ih2 := ih (fun x hx => h x (by simp [hx]))
    have he := h e (by simp)
    show (piecesL ((wraps [e, e] ++ N) ++ strG N es)).map gotG = ([(e, 0), (e, 0)] ++ noiG N) ++ glG N es
    rw [List.append_assoc, gots_wraps [e, e] _ (by intro x hx; simp at hx; rw [hx]; exact he)]
    have e1 : (piecesL (N ++ strG N es)).map gotG = noiG N ++ glG N es := by
      unfold noiG
      by_cases hn : N = []
      · rw [if_pos hn, hn, List.nil_append, List.nil_append, ← hn]; exact ih2
      · rw [if_neg hn, pieces_noise N _ hn hN (strG_head N es), List.map_cons, ih2, got_bad]; rfl
    rw [e1, List.append_assoc]
    rfl
theorem glG_len (N : List UInt8) (es : List Ev) : (glG N es).length ≤ es.length * 3 := by
  induction es with
  | nil => simp [glG]
  | cons e es ih =>
    have : (noiG N).length ≤ 1 := by unfold noiG; split <;> simp
    show (([(e, 0), (e, 0)] ++ noiG N) ++ glG N es).length ≤ _
    rw [List.length_append, List.length_append, List.length_cons]
    simp only [List.length_cons, List.length_nil]
    omega
theorem fold_snoc {α β : Type} (f : β → α → β) (s : β) (l : List α) (k : Nat) (h : k < l.length) : (l.take (k + 1)).foldl f s = f ((l.take k).foldl f s) l[k] := by
  rw [List.take_succ_eq_append_getElem h, List.foldl_append]; rfl
theorem strG_take (N : List UInt8) (es : List Ev) (k : Nat) (h : k < es.length) : strG N (es.take (k + 1)) = strG N (es.take k) ++ (wraps [es[k], es[k]] ++ N) := by
  rw [List.take_succ_eq_append_getElem h, strG_snoc]
theorem strG_len (N : List UInt8) (es : List Ev) (h : ∀ e ∈ es, okE e = true) : (strG N es).length ≤ es.length * (134 + N.length) := by
  induction es with
  | nil => simp [strG]
  | cons e es ih =>
    have h2 := ih (fun x hx => h x (by simp [hx]))
    have h3 := wraps_len [e, e] (by intro x hx; simp at hx; rw [hx]; exact h e (by simp))
    show ((wraps [e, e] ++ N) ++ strG N es).length ≤ _
    rw [List.length_append, List.length_append, List.length_cons, Nat.succ_mul]
    simp only [List.length_cons, List.length_nil] at h3
    omega
theorem glG_fit (N : List UInt8) (es : List Ev) (P : Ev → Prop) (h : ∀ e ∈ es, P e) : ∀ g ∈ glG N es, g.2 = 0 → P g.1 := by
  intro g hg h0
  obtain ⟨e, he, hg⟩ := List.mem_flatMap.1 hg
  rcases List.mem_append.1 hg with hg | hg
  · simp at hg; rw [hg]; exact h e he
  · unfold noiG at hg
    split at hg
    · simp at hg
    · simp at hg; rw [hg] at h0; exact absurd h0 (by decide)
end Go.Proofs.Ytemefcojmidmbaa.Gram
namespace Go.Proofs.Ytemefcojmidmbaa
namespace topTaken
open Go.ChangeShapes Go.WideShapes Go.ChangeAt Go.RowKit
open Go.ChangeMaps (open_string shut_string)
open Go.Proofs.Ytemefcojmidmbaa.Gram
open Go.Proofs.Ytemefcojmidmbaa.Ord (HasEvs HasEvs.keep HasEvs.cell HasRow.slice hasRow_own hasRow_nil HasSts HasSts.keep HasSts.cell St nextL next_any evCs evCs_len st_neq st_guard)
open Go.Proofs.Ytemefcojmidmbaa.Msg (Ev evV evC okE evB checkE FitE bytes_cat zeroE cells12')
open Go.Proofs.Ytemefcojmidmbaa.Addr (hiN loN RowAt below2 below_drew below_new bset RowAt.lt RowAt.cell RowAt.frozen RowAt.below RowAt.drew RowAt.new RowAt.alloc)

theorem own : ownKnob Try.prog.godebug = none := by kernel_rfl
theorem laidOut : laidOutB Try.prog = true := by kernel_rfl
theorem evs_lit (W : World) (es : List Ev) (n : Nat) (hn : n = es.length) (hm : n ≤ 1000) (cs : Array Value) (hc : cs = (evCs es).toArray) : HasEvs (W.alloc (.cells cs 35)) (.slice (some ⟨W.heap.size, 0, none⟩) n n) es := by
  subst hn hc
  refine ⟨evCs_len es, .inr ⟨⟨W.heap.size, 0, none⟩, es.length, rfl, Nat.le_refl _, by omega, fun _ => ⟨rfl, by simp⟩, fun j hj => ?_⟩⟩
  rw [Ord.addr_add, Nat.zero_add]
  exact (RowAt.new W (evCs es) 35).cell j
set_option maxHeartbeats 4000000 in
set_option maxRecDepth 20000 in
theorem walk_out (v : Value) (N : ByteArray) (h : Int) (w : World) (hh : h < -1 ∨ 1099511627776 < h)
    (kl : ∀ W : World, Calls Try.prog 5 #[] W fun e w' => e = .returned (.bool true) ∧ Below W.heap.size W w') :
    Calls Try.prog 4 #[v, .string N, .int .i64 h] w fun e w' => e = .returned (.bool true) ∧ Below w.heap.size w w' := by
  rcases hh with hh | hh
  · go_enter Try.func4, Try.ntmps4
    go_wp2_with fail
    go_at_call 5; refine (kl _).mono ?_; rintro e w1 ⟨rfl, hb1⟩
    go_wp2_with fail
    go_ret
    exact ⟨by first | rfl | simp, hb1⟩
  · have h2 : ¬ h < -1 := by omega
    go_enter Try.func4, Try.ntmps4
    go_wp2_with fail
    go_at_call 5; refine (kl _).mono ?_; rintro e w1 ⟨rfl, hb1⟩
    go_wp2_with fail
    go_ret
    exact ⟨by first | rfl | simp, hb1⟩
set_option maxHeartbeats 16000000 in
set_option maxRecDepth 20000 in
theorem walk_in (o : Option Addr) (cp n : Nat) (es : List Ev) (nl : List UInt8) (h : Int) (w : World) (HN : Hid (n = es.length)) (hn : (n : Int) ≤ 1048576) (HNL : Hid (nl.length ≤ 1048576)) (h1 : ¬ h < -1) (h2 : ¬ 1099511627776 < h)
    (HE : Hid (∀ W : World, Below w.heap.size w W → HasEvs W (.slice o n cp) es)) (HF : Hid (∀ e ∈ es, FitE e))
    (kl : ∀ W : World, Calls Try.prog 5 #[] W fun e w' => e = .returned (.bool true) ∧ Below W.heap.size W w') :
    Calls Try.prog 4 #[.slice o n cp, .string ⟨nl.toArray⟩, .int .i64 h] w fun e w' => e = .returned (.bool true) ∧ Below w.heap.size w w' := by
  obtain ⟨N, hN⟩ : ∃ N : ByteArray, N = ⟨nl.toArray⟩ := ⟨_, rfl⟩
  have HNd : Hid (N = ⟨nl.toArray⟩) := hN
  have HNs : Hid (N.size = nl.length) := by show _ = _; rw [hN]; exact size_list nl
  have HAt : Hid (∀ j (h : j < N.size) (h2 : j < nl.length), N[j]'h = nl[j]'h2) := by intro j h h2; subst hN; rfl
  have hNi : (N.size : Int) ≤ 1048576 := by have := HNL.out; have := HNs.out; omega
  rw [← hN]
  clear hN
  have HNX : Hid (∀ (W : World) (v : Value) (l : List St) (e : Ev), HasSts W v l → FitE e → Calls Try.prog 12 #[v, evV e, .int .i64 h] W fun r w' => ∃ u, r = .returned (.tuple #[u, .int .i64 (nextL l e h).2]) ∧ HasSts w' u (nextL l e h).1 ∧ Below W.heap.size W w') := fun W v l e hl hf => by
    refine (next_any l v e h W hl hf).mono ?_
    rintro r w' ⟨u, e1, ⟨e2, _⟩, e3⟩
    exact ⟨u, e1, e2, e3⟩
  go_enter Try.func4, Try.ntmps4
  go_wp2_with fail
  go_at_call 5; refine (kl _).mono ?_; rintro e w1 ⟨rfl, hb1⟩
  clear kl
  go_wp2_with fail
  go_loopw [36] (fun i wr => ∃ k : Nat, k ≤ N.size ∧ i = .int .i64 k ∧ Below w.heap.size w wr ∧ Hid (∀ j (h : j < N.size), j < k → ¬ (N[j]'h).toNat = 245)) (fun i _ => N.size - (intOf i).toNat)
  case atStart => exact ⟨0, Nat.zero_le _, rfl, hb1, fun j h hj => absurd hj (Nat.not_lt_zero _)⟩
  case round =>
    obtain ⟨k, hk, rfl, hB, HI⟩ := hrel
    clear hb1
    by_cases hlt : k < N.size
    · obtain ⟨b, hb⟩ : ∃ b, b = N[k]'hlt := ⟨_, rfl⟩
      have h0 : ∀ h : k < N.size, N[k]'h = b := fun h => hb.symm
      have HB : Hid (b = N[k]'hlt) := hb
      have hki : (k : Int) < (N.size : Int) := by omega
      clear hb HAt
      by_cases h245 : b.toNat = 245
      · have h245i : ((b.toNat : Nat) : Int) = 245 := by omega
        go_wp2_with fail
        go_ret
        exact ⟨rfl, hB⟩
      · have h245i : ¬ ((b.toNat : Nat) : Int) = 245 := by omega
        have HNN : Hid (¬ b.toNat = 245) := h245
        go_wp2_with fail
        go_roundw
        case rel =>
          refine ⟨k + 1, by omega, by go_num, hB, fun j h hj => ?_⟩
          by_cases hjk : j = k
          · subst hjk; rw [← HB.out]; exact HNN.out
          · exact HI.out j h (by omega)
        case measure => simp [intOf]; omega
    · have HNO : Hid (∀ b ∈ nl, b ≠ 245) := fun b hb hc => by
        obtain ⟨i, hi, e⟩ := List.getElem_of_mem hb
        have hi2 : i < N.size := by rw [HNs.out]; exact hi
        have h3 := HI.out i hi2 (by omega)
        apply h3
        rw [HAt.out i hi2 hi, e, hc]
        rfl
      have hkn : decide ((k : Int) < (N.size : Int)) = false := decide_eq_false (by omega)
      clear HI HAt
      go_upto_region 11 with fail
      obtain ⟨wA, hwA⟩ : ∃ wA, wA = wr := ⟨_, rfl⟩
      subst hwA
      clear hkn hlt hk
      go_wp2_with fail
      go_loopw [8, 46] (fun s i wr => ∃ k : Nat, k ≤ n ∧ i = .int .i64 k ∧ s = .string ⟨(strG nl (es.take k)).toArray⟩ ∧ Below w.heap.size w wr ∧ Hid (∀ e ∈ es.take k, okE e = true)) (fun _ i _ => n - (intOf i).toNat)
      case atStart => exact ⟨0, Nat.zero_le _, rfl, rfl, hB, fun e he => absurd he (by simp)⟩
      case round =>
        obtain ⟨k, hk, rfl, rfl, hB2, HO⟩ := hrel
        clear hB
        have hsl := strG_len nl (es.take k) HO.out
        have hsl2 : (strG nl (es.take k)).length ≤ 1048576 * 1048710 := by
          refine Nat.le_trans hsl (Nat.mul_le_mul ?_ ?_)
          · rw [List.length_take]; omega
          · have := HNL.out; omega
        by_cases hlt : k < n
        · have hkz : k < es.length := by rw [← HN.out]; exact hlt
          obtain ⟨g1, i1, rfl, hg1, a0, a1, a2, a3, a4, a5, a6, a7, a8, a9, a10, a11⟩ := HasEvs.cell (HE.out _ hB2) k hkz
          have hfe := HF.out es[k] (List.getElem_mem hkz)
          have HS : Hid (strG nl (es.take (k + 1)) = strG nl (es.take k) ++ (wraps [es[k], es[k]] ++ nl)) := strG_take nl es k hkz
          have HT : Hid (es.take (k + 1) = es.take k ++ [es[k]]) := List.take_succ_eq_append_getElem hkz
          obtain ⟨e0, he0⟩ : ∃ e0 : Ev, e0 = es[k] := ⟨_, rfl⟩
          rw [← he0] at a0 a1 a2 a3 a4 a5 a6 a7 a8 a9 a10 a11 hfe HS HT
          have cS : ∀ (W : World) (v : Value), HasEvs W v [e0, e0] → Calls Try.prog 10 #[v] W fun r w' => r = .returned (.tuple #[strV (streamG [] [e0, e0]).1, .int .i64 (streamG [] [e0, e0]).2]) ∧ Below W.heap.size W w' := fun W v hv => stream_any [e0, e0] v W hv (by intro x hx; simp at hx; rw [hx]; exact hfe) (fun x _ hx => (evB_len x hx).2) (by show 2 ≤ _; omega)
          have HLIT : Hid (∀ W : World, HasEvs (W.alloc (.cells (evC e0 ++ evC e0).toArray 35)) (.slice (some ⟨W.heap.size, 0, none⟩) 2 2) [e0, e0]) := fun W => evs_lit W _ 2 rfl (by decide) _ (by show _ = (evC e0 ++ (evC e0 ++ [])).toArray; rw [List.append_nil])
          have hok1 : okE e0 = true → streamG [] [e0, e0] = (wraps [e0, e0], 0) := fun hk => by rw [stream_ok [e0, e0] [] (by intro x hx; simp at hx; rw [hx]; exact hk)]; rfl
          have hok2 : okE e0 = false → streamG [] [e0, e0] = ([], 2) := fun hk => stream_no [e0, e0] [] (fun hc => by have := hc e0 (by simp); rw [hk] at this; cases this)
          have hwl : okE e0 = true → (wraps [e0, e0]).length ≤ 134 := fun hk => wraps_len [e0, e0] (by intro x hx; simp at hx; rw [hx]; exact hk)
          have hki : (k : Int) < (n : Int) := by omega
          unfold evC at HLIT
          simp only [List.cons_append, List.nil_append] at HLIT
          clear he0 hg1 hfe
          generalize ((e0.kind : Nat) : Int) = p0 at HLIT a0
          generalize e0.router = p1 at HLIT a1
          generalize ((e0.seq : Nat) : Int) = p2 at HLIT a2
          generalize e0.time = p3 at HLIT a3
          generalize e0.pf.six = p4 at HLIT a4
          generalize ((hiN e0.pf.n : Nat) : Int) = p5 at HLIT a5
          generalize ((loN e0.pf.n : Nat) : Int) = p6 at HLIT a6
          generalize e0.pf.len = p7 at HLIT a7
          generalize ((e0.act.k : Nat) : Int) = p8 at HLIT a8
          generalize e0.act.i = p9 at HLIT a9
          generalize e0.iface = p10 at HLIT a10
          generalize e0.peer = p11 at HLIT a11
          go_upto_region 15 with fail
          obtain ⟨X, hX⟩ : ∃ X, X = wr.alloc (.cells #[.int .u8 p0, .int .i64 p1, .int .u64 p2, .int .i64 p3, .bool p4, .int .u64 p5, .int .u64 p6, .int .i64 p7, .int .u8 p8, .int .i64 p9, .int .i64 p10, .int .i64 p11] 35) := ⟨_, rfl⟩
          have hbX : Below wr.heap.size wr X := by rw [hX]; exact below_new (Below.refl _ _) _
          have r0 : RowAt X wr.heap.size [.int .u8 p0, .int .i64 p1, .int .u64 p2, .int .i64 p3, .bool p4, .int .u64 p5, .int .u64 p6, .int .i64 p7, .int .u8 p8, .int .i64 p9, .int .i64 p10, .int .i64 p11] 35 := by rw [hX]; exact RowAt.new _ _ _
          rw [← hX]
          replace hB2 := below2 hB2 hbX
          clear hX hbX a0 a1 a2 a3 a4 a5 a6 a7 a8 a9 a10 a11
          generalize wr.heap.size = gs at r0 ⊢
          obtain ⟨⟨y0, y1, y2, y3, y4, y5⟩, ⟨y6, y7, y8, y9, y10, y11⟩, yf, hly⟩ := cells12' r0
          unfold strV at cS
          cases hoe : okE e0
          · rw [hok2 hoe] at cS
            clear HS HT hwl hok1 hok2
            go_wp2_with fail
            go_at_call 10; refine (cS _ _ (HLIT.out _)).mono ?_; rintro e w2 ⟨rfl, hb2⟩
            replace hB2 := below2 hB2 (below2 (below_new (Below.refl _ X) _) hb2)
            go_wp2_with fail
            go_ret
            exact ⟨by first | rfl | simp, hB2⟩
          · rw [hok1 hoe] at cS
            have hw := hwl hoe
            have HO2 : Hid (∀ e ∈ es.take (k + 1), okE e = true) := fun e he => by
              rw [HT.out] at he
              rcases List.mem_append.1 he with he | he
              · exact HO.out e he
              · simp at he; rw [he]; exact hoe
            have hcat1 := bytes_cat (wraps [e0, e0]) nl
            have hcat2 := bytes_cat (strG nl (es.take k)) (wraps [e0, e0] ++ nl)
            rw [← HS.out] at hcat2
            rw [← HNd.out] at hcat1
            have hnl := HNL.out
            have q1 : (((wraps [e0, e0]).length : Nat) : Int) + (N.size : Int) ≤ 2000000 := by omega
            have q2 : (((strG nl (es.take k)).length : Nat) : Int) + (((wraps [e0, e0] ++ nl).length : Nat) : Int) ≤ 140000000000000 := by rw [List.length_append]; omega
            have q3 : (((wraps [e0, e0]).length : Nat) : Int) ≤ 134 := by omega
            have q4 : (((strG nl (es.take k)).length : Nat) : Int) ≤ 140000000000000 := by omega
            have q5 : (((wraps [e0, e0] ++ nl).length : Nat) : Int) ≤ 2000000 := by rw [List.length_append]; omega
            clear HS HT hwl hok1 hok2 hw hnl hsl hsl2 HO
            generalize hs2 : strG nl (es.take (k + 1)) = s2 at *
            have HS2 : Hid (strG nl (es.take (k + 1)) = s2) := hs2
            clear hs2
            generalize strG nl (es.take k) = s1 at *
            generalize wraps [e0, e0] ++ nl = s3 at *
            generalize wraps [e0, e0] = s4 at *
            go_wp2_with fail
            go_at_call 10; refine (cS _ _ (HLIT.out _)).mono ?_; rintro e w2 ⟨rfl, hb2⟩
            replace hB2 := below2 hB2 (below2 (below_new (Below.refl _ X) _) hb2)
            go_wp2_with fail
            go_roundw
            case rel => exact ⟨k + 1, by omega, by go_num, by rw [HS2.out], hB2, HO2⟩
            case measure => simp [intOf]; omega
        · have hkn : decide ((k : Int) < (n : Int)) = false := decide_eq_false (by omega)
          have hte : es.take k = es := by have := HN.out; exact List.take_of_length_le (by omega)
          have hpg := gots_strG nl HNO.out (es.take k) HO.out
          obtain ⟨gl, hgl⟩ : ∃ gl, gl = glG nl es := ⟨_, rfl⟩
          have HGL : Hid (gl = glG nl es) := hgl
          have hgl3 : gl.length ≤ n * 3 := by rw [hgl, HN.out]; exact glG_len nl es
          have HGF : Hid (∀ g ∈ gl, g.2 = 0 → FitE g.1) := by intro g hg; rw [hgl] at hg; exact glG_fit nl es FitE HF.out g hg
          have cG : ∀ W : World, Calls Try.prog 11 #[.string ⟨(strG nl (es.take k)).toArray⟩] W fun e w' => ∃ V, e = .returned V ∧ HasGts w' V gl ∧ Below W.heap.size W w' := fun W => by
            have hpl : (piecesL (strG nl (es.take k))).length = gl.length := by rw [← List.length_map (f := gotG), hpg, hte, hgl]
            refine (gotsR_any (strG nl (es.take k)) W (by omega) (by omega)).mono ?_
            rintro e w' ⟨V, e1, e2, _, e3⟩
            rw [hpg, hte, ← hgl] at e2
            exact ⟨V, e1, e2, e3⟩
          clear hpg hte hgl hsl hsl2 HO HNO
          generalize (⟨(strG nl (es.take k)).toArray⟩ : ByteArray) = SS at *
          go_upto_region 20 with fail
          obtain ⟨wB, hwB⟩ : ∃ wB, wB = wr := ⟨_, rfl⟩
          subst hwB
          clear hkn hlt hk
          go_wp2_with fail
          go_at_call 11; refine (cG _).mono ?_; rintro e w3 ⟨V, rfl, hs3, hb3⟩
          replace hB2 := below2 hB2 hb3
          clear hb3 cG
          obtain ⟨o3, c3, rfl, hq1, hq2⟩ := HasRow.slice hs3
          obtain ⟨m, hm⟩ : ∃ m, m = gl.length := ⟨_, rfl⟩
          have HM : Hid (m = gl.length) := hm
          have HH : Hid (∀ wr : World, Below w3.heap.size w3 wr → HasGts wr (.slice o3 m c3) gl) := fun wr hb => by rw [hm]; exact hs3.keep hb
          rw [← hm] at hq1 hgl3 ⊢
          have hmi : (m : Int) ≤ 3145728 := by omega
          clear hm hs3
          go_wp2_with fail
          go_loopw [13, 15, 70] (fun a t i wr => ∃ (k : Nat) (F : List St × Nat), k ≤ m ∧ i = .int .i64 k ∧ t = .int .i64 (F.2 : Int) ∧ Hid (HasSts wr a F.1) ∧ Hid (F = (gl.take k).foldl (stG h) ([], 0)) ∧ F.2 ≤ k ∧ Below w3.heap.size w3 wr) (fun _ _ i _ => m - (intOf i).toNat)
          case atStart => exact ⟨0, ([], 0), Nat.zero_le _, rfl, rfl, hasRow_nil _ 4, rfl, Nat.le_refl _, Below.refl _ _⟩
          case round =>
            obtain ⟨k, F, hk, rfl, rfl, HA, HFD, hF2, hB3⟩ := hrel
            by_cases hlt : k < m
            · have hkz : k < gl.length := by rw [← HM.out]; exact hlt
              obtain ⟨g1, i1, rfl, hg1, a0, a1, a2, a3, a4, a5, a6, a7, a8, a9, a10, a11, a12⟩ := HasGts.cell (HH.out _ hB3) k hkz
              have HFS : Hid ((gl.take (k + 1)).foldl (stG h) ([], 0) = stG h F gl[k]) := by show _ = _; rw [fold_snoc _ _ _ _ hkz, ← HFD.out]
              have hfit := HGF.out gl[k] (List.getElem_mem hkz)
              obtain ⟨q, hq⟩ : ∃ q : GtT, q = gl[k] := ⟨_, rfl⟩
              rw [← hq] at a0 a1 a2 a3 a4 a5 a6 a7 a8 a9 a10 a11 a12 HFS hfit
              have cN := fun (hz : q.2 = 0) (W : World) (v : Value) (hv : HasSts W v F.1) => HNX.out W v F.1 q.1 hv (hfit hz)
              have HFA : Hid (q.2 ≠ 0 → (gl.take (k + 1)).foldl (stG h) ([], 0) = F) := fun hc => by rw [HFS.out]; unfold stG; rw [if_neg hc]
              have HFB : Hid (q.2 = 0 → (nextL F.1 q.1 h).2 = 0 → (gl.take (k + 1)).foldl (stG h) ([], 0) = ((nextL F.1 q.1 h).1, F.2 + 1)) := fun hc hy => by rw [HFS.out]; unfold stG stE; rw [if_pos hc, if_pos hy]
              have HFC : Hid (q.2 = 0 → (nextL F.1 q.1 h).2 ≠ 0 → (gl.take (k + 1)).foldl (stG h) ([], 0) = F) := fun hc hy => by rw [HFS.out]; unfold stG stE; rw [if_pos hc, if_neg hy]
              have hki : (k : Int) < (m : Int) := by omega
              have hf2i : (F.2 : Int) ≤ 3145728 := by omega
              unfold evV evC at cN
              clear hq hg1 hfit HFS
              generalize nextL F.1 q.1 h = NX at *
              generalize ((q.1.kind : Nat) : Int) = p0 at a0 cN
              generalize q.1.router = p1 at a1 cN
              generalize ((q.1.seq : Nat) : Int) = p2 at a2 cN
              generalize q.1.time = p3 at a3 cN
              generalize q.1.pf.six = p4 at a4 cN
              generalize ((hiN q.1.pf.n : Nat) : Int) = p5 at a5 cN
              generalize ((loN q.1.pf.n : Nat) : Int) = p6 at a6 cN
              generalize q.1.pf.len = p7 at a7 cN
              generalize ((q.1.act.k : Nat) : Int) = p8 at a8 cN
              generalize q.1.act.i = p9 at a9 cN
              generalize q.1.iface = p10 at a10 cN
              generalize q.1.peer = p11 at a11 cN
              obtain ⟨q1, qy⟩ := q
              simp only at *
              go_upto_region 25 with fail
              obtain ⟨X, hX⟩ : ∃ X, X = wr.alloc (.cells #[.int .u8 p0, .int .i64 p1, .int .u64 p2, .int .i64 p3, .bool p4, .int .u64 p5, .int .u64 p6, .int .i64 p7, .int .u8 p8, .int .i64 p9, .int .i64 p10, .int .i64 p11, .int .i64 qy] 56) := ⟨_, rfl⟩
              have hbX : Below wr.heap.size wr X := by rw [hX]; exact below_new (Below.refl _ _) _
              have r0 : RowAt X wr.heap.size [.int .u8 p0, .int .i64 p1, .int .u64 p2, .int .i64 p3, .bool p4, .int .u64 p5, .int .u64 p6, .int .i64 p7, .int .u8 p8, .int .i64 p9, .int .i64 p10, .int .i64 p11, .int .i64 qy] 56 := by rw [hX]; exact RowAt.new _ _ _
              rw [← hX]
              replace hB3 := below2 hB3 hbX
              replace HA : Hid (HasSts X u13 F.1) := HA.out.keep hbX
              clear hX hbX a0 a1 a2 a3 a4 a5 a6 a7 a8 a9 a10 a11 a12
              generalize wr.heap.size = gs at r0 ⊢
              obtain ⟨⟨y0, y1, y2, y3, y4, y5⟩, ⟨y6, y7, y8, y9, y10, y11, y12⟩, yf, hly⟩ := cells13 r0
              by_cases hz : qy = 0
              · subst hz
                have cN2 := cN rfl
                clear cN HFA
                go_wp2_with fail
                go_at_call 12; refine (cN2 _ _ HA.out).mono ?_; rintro e w4 ⟨v4, rfl, hs4, hb4⟩
                have HA4 : Hid (HasSts w4 u13 F.1) := HA.out.keep hb4
                have HA5 : Hid (HasSts w4 v4 NX.1) := hs4
                replace hB3 := below2 hB3 hb4
                clear hs4 hb4 HA cN2 y0 y1 y2 y3 y4 y5 y6 y7 y8 y9 y10 y11 y12 yf hly r0
                obtain ⟨NX1, yy⟩ := NX
                simp only at *
                by_cases hy : yy = 0
                · subst hy
                  have HV : Hid ((gl.take (k + 1)).foldl (stG h) ([], 0) = (NX1, F.2 + 1)) := HFB.out (by first | rfl | trivial) (by first | rfl | trivial)
                  clear HFB HFC
                  go_wp2_with fail
                  go_roundw
                  case rel => exact ⟨k + 1, (NX1, F.2 + 1), by omega, by go_num, by go_num, HA5, by show _ = _; rw [HV.out], by show F.2 + 1 ≤ k + 1; omega, hB3⟩
                  case measure => simp [intOf]; omega
                · have ny : (yy == 0) = false := by simpa using hy
                  have HV : Hid ((gl.take (k + 1)).foldl (stG h) ([], 0) = F) := HFC.out (by first | rfl | trivial) hy
                  clear HFB HFC
                  go_wp2_with fail
                  go_roundw
                  case rel => exact ⟨k + 1, F, by omega, by go_num, rfl, HA4, by show _ = _; rw [HV.out], by omega, hB3⟩
                  case measure => simp [intOf]; omega
              · have nz : (qy != 0) = true := by simpa using hz
                have HV : Hid ((gl.take (k + 1)).foldl (stG h) ([], 0) = F) := HFA.out hz
                clear HFB HFC HFA cN
                go_wp2_with fail
                go_roundw
                case rel => exact ⟨k + 1, F, by omega, by go_num, rfl, HA, by show _ = _; rw [HV.out], by omega, hB3⟩
                case measure => simp [intOf]; omega
            · have hkn : decide ((k : Int) < (m : Int)) = false := decide_eq_false (by omega)
              have HFE : Hid (F = es.foldl (stE h) ([], 0)) := by
                show _ = _
                have := HM.out
                rw [HFD.out, List.take_of_length_le (by omega), HGL.out, taken_eq]
              clear HFD HGL HGF HH
              go_upto_region 31 with fail
              obtain ⟨wC, hwC⟩ : ∃ wC, wC = wr := ⟨_, rfl⟩
              subst hwC
              have hBC := below2 hB2 hB3
              have hf2i : (F.2 : Int) ≤ 3145728 := by omega
              clear hkn hlt hk hB2 hB3 hF2
              obtain ⟨oa, ca, hva, hqa, hqb⟩ := HasRow.slice HA.out
              subst hva
              go_wp2_with fail
              go_loopw [14, 20, 93] (fun a t i wr => ∃ (k : Nat) (G : List St × Nat), k ≤ n ∧ i = .int .i64 k ∧ t = .int .i64 (G.2 : Int) ∧ Hid (HasSts wr a G.1) ∧ Hid (G = (es.take k).foldl (stE h) ([], 0)) ∧ G.2 ≤ k ∧ Below wC.heap.size wC wr) (fun _ _ i _ => n - (intOf i).toNat)
              case atStart => exact ⟨0, ([], 0), Nat.zero_le _, rfl, rfl, hasRow_nil _ 4, rfl, Nat.le_refl _, Below.refl _ _⟩
              case round =>
                obtain ⟨k, G, hk, rfl, rfl, HB, HGD, hG2, hB4⟩ := hrel
                by_cases hlt : k < n
                · have hkz : k < es.length := by rw [← HN.out]; exact hlt
                  obtain ⟨g1, i1, rfl, hg1, a0, a1, a2, a3, a4, a5, a6, a7, a8, a9, a10, a11⟩ := HasEvs.cell (HE.out _ (below2 hBC hB4)) k hkz
                  have HFS : Hid ((es.take (k + 1)).foldl (stE h) ([], 0) = stE h G es[k]) := by show _ = _; rw [fold_snoc _ _ _ _ hkz, ← HGD.out]
                  have hfit := HF.out es[k] (List.getElem_mem hkz)
                  obtain ⟨q, hq⟩ : ∃ q : Ev, q = es[k] := ⟨_, rfl⟩
                  rw [← hq] at a0 a1 a2 a3 a4 a5 a6 a7 a8 a9 a10 a11 HFS hfit
                  have cN := fun (W : World) (v : Value) (hv : HasSts W v G.1) => HNX.out W v G.1 q hv hfit
                  have HFB : Hid ((nextL G.1 q h).2 = 0 → (es.take (k + 1)).foldl (stE h) ([], 0) = ((nextL G.1 q h).1, G.2 + 1)) := fun hy => by rw [HFS.out]; unfold stE; rw [if_pos hy]
                  have HFC : Hid ((nextL G.1 q h).2 ≠ 0 → (es.take (k + 1)).foldl (stE h) ([], 0) = G) := fun hy => by rw [HFS.out]; unfold stE; rw [if_neg hy]
                  have hki : (k : Int) < (n : Int) := by omega
                  have hg2i : (G.2 : Int) ≤ 3145728 := by omega
                  unfold evV evC at cN
                  clear hq hg1 hfit HFS
                  generalize nextL G.1 q h = NX at *
                  generalize ((q.kind : Nat) : Int) = p0 at a0 cN
                  generalize q.router = p1 at a1 cN
                  generalize ((q.seq : Nat) : Int) = p2 at a2 cN
                  generalize q.time = p3 at a3 cN
                  generalize q.pf.six = p4 at a4 cN
                  generalize ((hiN q.pf.n : Nat) : Int) = p5 at a5 cN
                  generalize ((loN q.pf.n : Nat) : Int) = p6 at a6 cN
                  generalize q.pf.len = p7 at a7 cN
                  generalize ((q.act.k : Nat) : Int) = p8 at a8 cN
                  generalize q.act.i = p9 at a9 cN
                  generalize q.iface = p10 at a10 cN
                  generalize q.peer = p11 at a11 cN
                  go_upto_region 35 with fail
                  obtain ⟨X, hX⟩ : ∃ X, X = wr.alloc (.cells #[.int .u8 p0, .int .i64 p1, .int .u64 p2, .int .i64 p3, .bool p4, .int .u64 p5, .int .u64 p6, .int .i64 p7, .int .u8 p8, .int .i64 p9, .int .i64 p10, .int .i64 p11] 35) := ⟨_, rfl⟩
                  have hbX : Below wr.heap.size wr X := by rw [hX]; exact below_new (Below.refl _ _) _
                  have r0 : RowAt X wr.heap.size [.int .u8 p0, .int .i64 p1, .int .u64 p2, .int .i64 p3, .bool p4, .int .u64 p5, .int .u64 p6, .int .i64 p7, .int .u8 p8, .int .i64 p9, .int .i64 p10, .int .i64 p11] 35 := by rw [hX]; exact RowAt.new _ _ _
                  rw [← hX]
                  replace hB4 := below2 hB4 hbX
                  replace HB : Hid (HasSts X u14 G.1) := HB.out.keep hbX
                  clear hX hbX a0 a1 a2 a3 a4 a5 a6 a7 a8 a9 a10 a11
                  generalize wr.heap.size = gs at r0 ⊢
                  obtain ⟨⟨y0, y1, y2, y3, y4, y5⟩, ⟨y6, y7, y8, y9, y10, y11⟩, yf, hly⟩ := cells12' r0
                  go_wp2_with fail
                  go_at_call 12; refine (cN _ _ HB.out).mono ?_; rintro e w4 ⟨v4, rfl, hs4, hb4⟩
                  have HA4 : Hid (HasSts w4 u14 G.1) := HB.out.keep hb4
                  have HA5 : Hid (HasSts w4 v4 NX.1) := hs4
                  replace hB4 := below2 hB4 hb4
                  clear hs4 hb4 HB cN y0 y1 y2 y3 y4 y5 y6 y7 y8 y9 y10 y11 yf hly r0
                  obtain ⟨NX1, yy⟩ := NX
                  simp only at *
                  by_cases hy : yy = 0
                  · subst hy
                    have HV : Hid ((es.take (k + 1)).foldl (stE h) ([], 0) = (NX1, G.2 + 1)) := HFB.out (by first | rfl | trivial)
                    clear HFB HFC
                    go_wp2_with fail
                    go_roundw
                    case rel => exact ⟨k + 1, (NX1, G.2 + 1), by omega, by go_num, by go_num, HA5, by show _ = _; rw [HV.out], by show G.2 + 1 ≤ k + 1; omega, hB4⟩
                    case measure => simp [intOf]; omega
                  · have ny : (yy == 0) = false := by simpa using hy
                    have HV : Hid ((es.take (k + 1)).foldl (stE h) ([], 0) = G) := HFC.out hy
                    clear HFB HFC
                    go_wp2_with fail
                    go_roundw
                    case rel => exact ⟨k + 1, G, by omega, by go_num, rfl, HA4, by show _ = _; rw [HV.out], by omega, hB4⟩
                    case measure => simp [intOf]; omega
                · have hkn : decide ((k : Int) < (n : Int)) = false := decide_eq_false (by omega)
                  have hGF : G = F := by
                    have := HN.out
                    rw [HGD.out, List.take_of_length_le (by omega), HFE.out]
                  subst hGF
                  replace HA : Hid (HasSts wr (.slice oa G.1.length ca) G.1) := HA.out.keep hB4
                  have hBW := below2 hBC hB4
                  obtain ⟨ob, cb, hvb, hqc, hqd⟩ := HasRow.slice HB.out
                  subst hvb
                  go_upto_region 40 with fail
                  obtain ⟨wD, hwD⟩ : ∃ wD, wD = wr := ⟨_, rfl⟩
                  subst hwD
                  obtain ⟨m2, hm2⟩ : ∃ m2, m2 = G.1.length := ⟨_, rfl⟩
                  have HM2 : Hid (m2 = G.1.length) := hm2
                  have HR : Hid (∀ wr : World, Below wD.heap.size wD wr → HasSts wr (.slice oa m2 ca) G.1 ∧ HasSts wr (.slice ob m2 cb) G.1) := fun wr hb => by rw [hm2]; exact ⟨HA.out.keep hb, HB.out.keep hb⟩
                  rw [← hm2] at hqa hqc ⊢
                  have hm2i : (m2 : Int) ≤ 9223372036854775807 := by omega
                  have hneq := st_neq
                  have hgd := st_guard
                  have hnn : ((m2 : Int) != (m2 : Int)) = false := by simp
                  have hnf : ((G.2 : Int) != (G.2 : Int)) = false := by simp
                  clear hkn hlt hk hm2 HA HB HGD HFE hB4 hBC
                  go_wp2_with fail
                  go_loopw [122] (fun i wr => ∃ k : Nat, k ≤ m2 ∧ i = .int .i64 k ∧ Below wD.heap.size wD wr) (fun i _ => m2 - (intOf i).toNat)
                  case atStart => exact ⟨0, Nat.zero_le _, rfl, Below.refl _ _⟩
                  case round =>
                    obtain ⟨k, hk, rfl, hB5⟩ := hrel
                    obtain ⟨ha, hb⟩ := HR.out _ hB5
                    by_cases hlt : k < m2
                    · have hkz : k < G.1.length := by rw [← HM2.out]; exact hlt
                      obtain ⟨g1, i1, rfl, _, a0, a1, a2, a3⟩ := HasSts.cell ha k hkz
                      obtain ⟨g2, i2, rfl, _, b0, b1, b2, b3⟩ := HasSts.cell hb k hkz
                      generalize G.1[k].router = ra at a0 b0
                      generalize (G.1[k].seq : Int) = rb at a1 b1
                      generalize G.1[k].time = rc at a2 b2
                      generalize G.1[k].up = ru at a3 b3
                      have hki : (k : Int) < (m2 : Int) := by omega
                      clear ha hb
                      go_wp2_with fail
                      go_quiet (fail)
                      go_wp2_with fail
                      go_roundw
                      case rel => exact ⟨k + 1, by omega, by go_num, by first | exact hB5 | exact below_drew hB5 | exact below_drewN hB5 _⟩
                      case measure => simp [intOf]; omega
                    · have hkn : decide ((k : Int) < (m2 : Int)) = false := decide_eq_false (by omega)
                      clear ha hb
                      go_wp2_with fail
                      go_ret
                      exact ⟨rfl, below2 hBW hB5⟩
theorem walk (v : Value) (es : List Ev) (N : ByteArray) (h : Int) (w : World) (b0 : HasEvs w v es) (f0 : ∀ e ∈ es, FitE e) (m0 : es.length ≤ 1048576) (b1 : N.size ≤ 1048576) (b2 : -9223372036854775808 ≤ h ∧ h ≤ 9223372036854775807) :
    Calls Try.prog 4 #[v, .string N, .int .i64 h] w fun e w' => e = .returned (.bool true) ∧ Below w.heap.size w w' := by
  by_cases hh : h < -1 ∨ 1099511627776 < h
  · exact walk_out v N h w hh (fun W => Frame.begins_any W)
  · obtain ⟨o, c, rfl, _, _⟩ := HasRow.slice b0
    obtain ⟨nl, hnl⟩ : ∃ nl : List UInt8, nl = N.data.toList := ⟨_, rfl⟩
    have hM : N = ⟨nl.toArray⟩ := by rw [hnl]
    have hsz : nl.length = N.size := by rw [hnl, Array.length_toList]; rfl
    rw [hM]
    exact walk_in o c es.length es nl h w rfl (by omega) (by show _ ≤ _; omega) (by omega) (by omega) (fun W hb => b0.keep hb) f0 (fun W => Frame.begins_any W)

set_option maxRecDepth 100000 in
theorem contract (H : Type) (enc : TypeId × Value → H) (W : World) (base : Nat) (args : Array Value) (ds gs : List (DataW H)) (before : List MemPlace)
    (hval0 : ∀ (j : Nat) t v, Try.f4.params[j]? = some t → args[j]? = some v → Value.okWide Try.prog W .any base t v)
    (hW : DataW.Whole enc Try.prog Try.f4.params.toList Rows.topTakenSpec.vars false W args.toList ds gs before) (hk : Rows.uptoSmall H (ds ++ gs) = true)
    (hsz0 : (DataW.weightsEach Try.prog (Try.f4.params.toList ++ Rows.topTakenSpec.plain.varTypes Try.prog) (ds ++ gs)).all (· ≤ reachBytes) = true) :
    Calls Try.prog 4 args W fun e W' => ∃ v, e = .returned v ∧ Rows.topTakenSpec.post enc Try.prog Try.f4 false true false false W args v W' := by
  have hsz : (DataW.weightsEach Try.prog (Try.f4.params.toList ++ Rows.topTakenSpec.plain.varTypes Try.prog) (ds ++ gs)).all (· ≤ reachBytes) = true := hsz0
  clear hsz0
  have hval : ∀ (j : Nat) t v, Try.f4.params[j]? = some t → args[j]? = some v → Value.okWide Try.prog W .any base t v := hval0
  have hW' := hW
  obtain ⟨p, q, hA0, hV, rfl, hfz, hnd⟩ := hW
  have hA : DataW.TrodAll enc Try.prog W 0 (fun _ => true) true Try.f4.params.toList args.toList ds p := hA0
  rw [Try.params4] at hA hval hsz
  obtain ⟨v0, vs0, d0, ds0, p0, q0, hargs, rfl, rfl, h0, r0⟩ := trodAll_cons hA
  obtain ⟨v1, vs1, d1, ds1, p1, q1, rfl, rfl, rfl, h1, r1⟩ := trodAll_cons r0
  obtain ⟨v2, vs2, d2, ds2, p2, q2, rfl, rfl, rfl, h2, r2⟩ := trodAll_cons r1
  obtain ⟨rfl, rfl, rfl⟩ := trodAll_nil r2
  obtain rfl : args = #[v0, v1, v2] := by cases args; simp_all
  obtain ⟨rfl, rfl⟩ := trodVars_none hV
  obtain ⟨a0, len0, cap0, rfl⟩ := okWide_slice Try.underlying22 (hval 0 22 v0 rfl rfl)
  have k0 := h0
  have lt0 : ∀ x ∈ p0, x.block < W.heap.size := by obtain ⟨m, hm⟩ := k0; exact DataW.trod_lt m _ _ _ hm
  have n0 : len0 ≤ 1048576 := by
    obtain ⟨fuel, hf⟩ := k0
    rcases Go.Deep.open_slice Try.underlying22 hf with ⟨hcs, _⟩ | ⟨x, l, c, m, n, D, Pl, hcs, _, _, _, _, hx, _⟩
    · simp [Value.cells] at hcs
      omega
    · simp [Value.cells] at hcs
      obtain ⟨rfl, rfl, rfl⟩ := hcs
      have := bulk_row hk (j := 0) (congrArg some (Prod.mk.inj hx).1)
      simpa using this
  obtain ⟨fuel0, hf0⟩ := h0
  obtain ⟨z0, b0, f0⟩ := Ord.open_events hf0
  have m0 : z0.length ≤ 1048576 := by
    obtain ⟨_, _, e, _⟩ := Ord.HasRow.slice b0
    injection e with _ e _
    omega
  obtain ⟨a1, rfl, rfl, rfl, w1⟩ := open_string Try.underlying9 (hval 1 9 v1 rfl rfl) h1
  have b1 : a1.size ≤ 1048576 := bulk_str hk (j := 1) rfl
  obtain ⟨a2, rfl, rfl, rfl, w2⟩ := open_int Try.underlying2 (hval 2 2 v2 rfl rfl) h2
  have b2 : -9223372036854775808 ≤ a2 ∧ a2 ≤ 9223372036854775807 := by simpa [Lit.wf, IntKind.min, IntKind.max, IntKind.signed, IntKind.bits] using w2
  clear hA0 hval0
  refine (walk (.slice a0 len0 cap0) z0 a1 a2 W b0 f0 m0 b1 b2).mono fun e W' ⟨he, bel⟩ => ?_
  subst he
  exact ⟨_, rfl, _, _, _, [], _, [], hW', trodAll_mk1 (shut_bool Try.underlying4 _), (trodAll_cons_mk (Below.trod laidOut (by kernel_rfl) (of_decide_eq_true (by kernel_rfl)) k0 bel lt0) (trodAll_cons_mk (shut_string Try.underlying9 w1) (trodAll_cons_mk (shut_int Try.underlying2 w2) trodAll_mk0))), rfl, bel.frame _, fun h => by cases h⟩
set_option maxRecDepth 100000 in
theorem lifted (os : Os) (started : os.Started) (H : Type) (enc : TypeId × Value → H) (F : Stop.Interp) :
    ReturnsInHanded {} Try.checked os 4 .any ((Rows.OpenSpec.upto Rows.topTakenSpec).pre6 enc Try.prog Try.f4 Rows.topTakenUptoRow.domain false) (((Rows.OpenSpec.upto Rows.topTakenSpec).at F).post enc Try.prog Try.f4 false true false false) := by
  refine returnsInHanded_of_cond_sized (C := Try.checked) (s := Rows.OpenSpec.upto Rows.topTakenSpec) (k := Rows.uptoSmall) rfl own started (by kernel_rfl) Try.func4
    (OpenSpec.witness (enc := enc) (C := Try.checked) (s := Rows.OpenSpec.upto Rows.topTakenSpec) (k := Rows.uptoSmall) rfl false ⟨#[], #[.slice none 0 0, .string ByteArray.empty, .int .i64 0], []⟩ 8 (by kernel_rfl) (by kernel_rfl) (by kernel_rfl)
      (x := ([.nil, .lit (.string []), .lit (.int .i64 0)], [], [])) (by kernel_rfl) rfl (by kernel_rfl)) ?_
  intro W base args ds gs before hval hW _ hk hsz _
  exact contract H enc W base args ds gs before hval hW hk hsz

theorem over : Rows.topTakenUptoRow.holds Try.pinned (Rows.OpenSpec.upto Rows.topTakenSpec) :=
  OpenClaim.holds_of_cond 4 Try.f4 rfl rfl rfl rfl rfl rfl rfl ⟨rfl, rfl, rfl, rfl, rfl⟩ rfl rfl rfl rfl rfl (by kernel_rfl) Try.func4 (by kernel_rfl)
    (of_decide_eq_true (by kernel_rfl)) (by unfold Func.isWrapper; first | (rw [if_pos (by decide +kernel)]; kernel_rfl) | (rw [if_neg (by decide +kernel)]; exact ⟨rfl, rfl⟩))
    (fun os started H enc _ F => lifted os started H enc F)
end topTaken
theorem ttaken_holds : Rows.TopTakenUptoSaid := topTaken.over
#print axioms ttaken_holds
end Go.Proofs.Ytemefcojmidmbaa
