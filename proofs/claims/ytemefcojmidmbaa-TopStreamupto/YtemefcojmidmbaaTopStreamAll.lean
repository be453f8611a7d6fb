/- For all events, texts and sizes that together hold at most 1048576 values and letters (the second form): spoortop.TopStream returns true, and changes nothing that was there. -/
import Derived.Test.YtemefcojmidmbaaGramTZ
import Derived.Test.YtemefcojmidmbaaCutTA
import Derived.Test.YtemefcojmidmbaaRows
import Derived.Test.YtemefcojmidmbaaBgnTZ
import Derived.Test.YtemefcojmidmbaaGramTB
import Derived.Test.YtemefcojmidmbaaMsgEq
import Derived.ProofKit
import Derived.OpenShut
import Derived.ShutString
import Derived.SizedLaws
import Derived.Deep.RegionHeld
import Derived.Deep.RegionHeld3
set_option linter.unusedVariables false
namespace Go.Proofs.Ytemefcojmidmbaa.Gram
open Go.Proofs.Ytemefcojmidmbaa.Msg (Ev evV evC okE evB zeroE)
open Go.Proofs.Ytemefcojmidmbaa.Cut (Ct feedC stepC zeroC feed_app feed_wraps wrapsL)
theorem feed_noise (N : List UInt8) (hN : ∀ b ∈ N, b ≠ 245) : ∀ c : Ct, c.rest = [] → c.skip = 0 → (feedC c N).1.rest = [] ∧ (feedC c N).1.skip = 0 ∧ (feedC c N).2 = (if N = [] ∨ c.bad = true then [] else [(2, [])]) := by
  induction N with
  | nil => intro c h1 h2; exact ⟨h1, h2, by simp [feedC]⟩
  | cons b t ih =>
    intro c h1 h2
    have hb := hN b (by simp)
    have iht := ih (fun x hx => hN x (by simp [hx]))
    obtain ⟨r, bd, sk⟩ := c
    simp only at h1 h2
    subst h1 h2
    have hs : stepC ⟨[], bd, 0⟩ b = (⟨[], true, 0⟩, if bd = true then [] else [(2, [])]) := by
      unfold stepC
      simp only [Int.lt_irrefl, if_false, List.isEmpty_nil, if_true]
      rw [if_neg hb]
      cases bd <;> rfl
    obtain ⟨e1, e2, e3⟩ := iht ⟨[], true, 0⟩ rfl rfl
    simp only [feedC]
    rw [hs]
    refine ⟨e1, e2, ?_⟩
    rw [e3]
    simp
def evP (es : List Ev) : List PcT := es.map (fun e => ((1, evB e) : PcT))
theorem evP_at (es : List Ev) (k : Nat) (h : k < (evP es).length) (h2 : k < es.length) : (evP es)[k] = (1, evB es[k]) := by
  show (es.map (fun e => ((1, evB e) : PcT)))[k]'(by rw [List.length_map]; exact h2) = _
  rw [List.getElem_map]
theorem wraps_list (es : List Ev) : wraps es = wrapsL (es.map evB) := by
  unfold wraps wrapsL
  rw [List.flatMap_map]
  rfl
theorem feed_stream (N : List UInt8) (hN : ∀ b ∈ N, b ≠ 245) (es : List Ev) (h : ∀ e ∈ es, okE e = true) :
    (feedC zeroC (N ++ wraps es)).1.rest = [] ∧ (feedC zeroC (N ++ wraps es)).1.skip = 0 ∧ (feedC zeroC (N ++ wraps es)).2 = (if N = [] then [] else [(2, [])]) ++ evP es := by
  obtain ⟨e1, e2, e3⟩ := feed_noise N hN zeroC rfl rfl
  have hw := feed_wraps (es.map evB) (by
    intro z hz
    obtain ⟨e, he, rfl⟩ := List.mem_map.1 hz
    have := evB_len e (h e he)
    omega) (feedC zeroC N).1 e1 e2
  rw [feed_app, wraps_list]
  refine ⟨?_, ?_, ?_⟩
  · show (feedC (feedC zeroC N).1 (wrapsL (es.map evB))).1.rest = []
    rw [hw.2]
    split
    · exact e1
    · rfl
  · show (feedC (feedC zeroC N).1 (wrapsL (es.map evB))).1.skip = 0
    rw [hw.2]
    split
    · exact e2
    · rfl
  · show (feedC zeroC N).2 ++ (feedC (feedC zeroC N).1 (wrapsL (es.map evB))).2 = _
    rw [hw.1, e3, List.map_map]
    congr 1
    simp [zeroC]
theorem wraps_take (es : List Ev) (k : Nat) (h : k < es.length) : wraps (es.take (k + 1)) = wraps (es.take k) ++ wrapL (evB es[k]) := by
  rw [List.take_succ_eq_append_getElem h]; unfold wraps; rw [List.flatMap_append]; simp only [List.flatMap_cons, List.flatMap_nil, List.append_nil]
end Go.Proofs.Ytemefcojmidmbaa.Gram
namespace Go.Proofs.Ytemefcojmidmbaa
namespace topStream
open Go.ChangeShapes Go.WideShapes Go.ChangeAt Go.RowKit Go.Shelf
open Go.ChangeMaps (open_string shut_string)
open Go.Proofs.Ytemefcojmidmbaa.Cut
open Go.Proofs.Ytemefcojmidmbaa.Gram (wraps evP wraps_take wraps_len evB_len get_put feed_stream ev_inS)
open Go.Proofs.Ytemefcojmidmbaa.Ord (HasEvs HasEvs.keep HasEvs.cell)
open Go.Proofs.Ytemefcojmidmbaa.Msg (Ev evV evC okE evB checkE FitE eput_any eget_any cells12')
open Go.Proofs.Ytemefcojmidmbaa.Addr (hiN loN)
attribute [-go_sem] Builtin.append_

theorem own : ownKnob Try.prog.godebug = none := by kernel_rfl
theorem laidOut : laidOutB Try.prog = true := by kernel_rfl
def sLen : Value → Nat
  | .string b => b.size
  | _ => 0
theorem sz_at {W : World} {a : Option Addr} {len cap : Nat} {zs : List Int} (h : IsRow .u8 W a len cap zs) (i : Nat) (hi : i < len) : ∃ (b j0 z : Nat), a = some ⟨b, j0, none⟩ ∧ b < W.heap.size ∧ W.cell? ⟨b, j0 + i, none⟩ = some (.int .u8 (z : Int)) ∧ z ≤ 255 := by
  rcases h with ⟨_, h0, _⟩ | ⟨x, rfl, h1, h2, h3, h4, h5⟩
  · omega
  · have hc := h4 i (by omega)
    have hm : zs.getD i 0 ∈ zs := by
      rw [List.getD_eq_getElem?_getD, List.getElem?_eq_getElem (by omega)]
      exact List.getElem_mem _
    have hw := h5 _ hm
    have hz : 0 ≤ zs.getD i 0 ∧ zs.getD i 0 ≤ 255 := by simpa [Lit.wf, IntKind.min, IntKind.max, IntKind.signed, IntKind.bits] using hw
    obtain ⟨b, j0, sp⟩ := x
    have h0 := h4 0 (by omega)
    have hsp : sp = none := by simpa [Addr.add] using World.cell?_spot h0
    subst hsp
    have hs := Ord.spot_of hc
    rw [Ord.addr_add] at hc hs
    refine ⟨b, j0, (zs.getD i 0).toNat, rfl, hs.2, ?_, by omega⟩
    rw [hc, show (((zs.getD i 0).toNat : Nat) : Int) = zs.getD i 0 by omega]
/-- the law's own box and row: the cutter, the pieces -/
structure At (w W : World) (g : Nat) (c : Ct) (v : Value) (ps : List PcT) : Prop where
  cc : RowAt W g [strV c.rest, .bool c.bad, .int .i64 c.skip] 41
  ow : W.ownsRow (g + 1) 47 2 v ps.length (pcCs ps)
  bl : Below w.heap.size w W
  sz : g + 1 ≤ W.heap.size
  lt : w.heap.size ≤ g
theorem At.below {w W W' : World} {g : Nat} {c : Ct} {v : Value} {ps : List PcT} (h : At w W g c v ps) (hb : Below W.heap.size W W') : At w W' g c v ps :=
  ⟨h.cc.below hb, own_below h.ow hb, below2 h.bl hb, Nat.le_trans h.sz hb.size, h.lt⟩
theorem At.store {w W : World} {g : Nat} {c : Ct} {v : Value} {ps : List PcT} (h : At w W g c v ps) (e : Ct) :
    At w (((W.setCell ⟨g, 0, none⟩ (strV e.rest)).setCell ⟨g, 1, none⟩ (.bool e.bad)).setCell ⟨g, 2, none⟩ (.int .i64 e.skip)) g e v ps := by
  have hlt := h.lt
  exact ⟨((h.cc.set1 0 _).set1 1 _).set1 2 _, own_set (own_set (own_set h.ow (by omega)) (by omega)) (by omega), bset (bset (bset h.bl (by omega)) (by omega)) (by omega), by rw [size_set, size_set, size_set]; exact h.sz, h.lt⟩
theorem own_other {W : World} {m k b : Nat} {v : Value} {xs cs : List Value} (h : W.ownsRow m 47 2 v k xs) (hr : RowAt W b cs 41) : some b ≠ v.ownBlock := by
  rcases h.2 with ⟨rfl, _⟩ | ⟨g, cap, cur, rfl, _, hg, _⟩
  · intro e; cases e
  · intro e
    injection e with e
    subst e
    rw [show W.heap[b]? = _ from hr] at hg
    injection hg with hg
    injection hg with _ hg _
    exact absurd hg (by decide)
theorem At.app {w W : World} {g g2 : Nat} {c : Ct} {v u : Value} {ps qs : List PcT} {cs : List Value} (h : At w W g c v ps) (hu : HasPcs W u qs) (hr : RowAt W g2 cs 41) (hb : (ps.length + qs.length) * 24 ≤ 140737488355328) :
    ∃ o cap w3, (∀ ty, (Builtin.append_ #[42, 42] ty #[v, u]).run Try.prog W = .ok (.slice o (ps ++ qs).length cap) w3) ∧ At w w3 g c (.slice o (ps ++ qs).length cap) (ps ++ qs) ∧ RowAt w3 g2 cs 41 := by
  obtain ⟨v', w3, hrun, ho, hg⟩ := append_pcs h.ow hu hb h.sz
  have hlt := h.lt
  rw [← List.length_append, ← pcCs_app] at ho
  obtain ⟨o, cap, rfl, _, _⟩ := HasRow.slice (hasRow_own ho)
  refine ⟨o, cap, w3, hrun, ⟨rowAt_kept h.cc hg (own_ne h.ow (by omega)), ho, ?_, Nat.le_trans h.sz hg.size, h.lt⟩, rowAt_kept hr hg (own_other h.ow hr)⟩
  exact h.bl.grown hg (by have := h.bl.size; omega) (fun k e => by have := own_at h.ow k e; omega)
theorem At.cells {w W : World} {g : Nat} {c : Ct} {v : Value} {ps : List PcT} (h : At w W g c v ps) : W.cell? ⟨g, 0, none⟩ = some (strV c.rest) ∧ W.cell? ⟨g, 1, none⟩ = some (.bool c.bad) ∧ W.cell? ⟨g, 2, none⟩ = some (.int .i64 c.skip) ∧ (∀ k, W.frozen? ⟨g, k, none⟩ = false) ∧ g < W.heap.size := by
  obtain ⟨a2, b2, e2, f2⟩ := cells3 h.cc
  exact ⟨a2, b2, e2, f2, h.cc.lt⟩
/-- behind a byte has come: its box, its pieces -/
structure RG (w W : World) (g : Nat) (d : Ct) (o : Option Addr) (cp : Nat) (qs : List PcT) : Prop where
  dd : RowAt W g [strV d.rest, .bool d.bad, .int .i64 d.skip] 41
  pc : HasPcs W (.slice o qs.length cp) qs
  bl : Below w.heap.size w W
  lt : w.heap.size ≤ g
  ne : ∀ a n c, (Value.slice o qs.length cp) = .slice (some a) n c → w.heap.size ≤ a.block
theorem rg_new {wr W w3 : World} {d : Ct} {o : Option Addr} {cp : Nat} {qs : List PcT} (hbA : Below wr.heap.size wr w3) (hp : HasPcs w3 (.slice o qs.length cp) qs) (hn : NewIn W (.slice o qs.length cp)) (hW : wr.heap.size ≤ W.heap.size) :
    RG wr (w3.alloc (.cells #[.string ⟨d.rest.toArray⟩, .bool d.bad, .int .i64 d.skip] 41)) w3.heap.size d o cp qs :=
  ⟨RowAt.new w3 [_, _, _] _, hp.keep (below_new (Below.refl _ _) _), below_new hbA _, hbA.size, fun a n c e => Nat.le_trans hW (hn a n c e)⟩
theorem rg_at {wr W w3 : World} {d : Ct} {o : Option Addr} {cp g : Nat} {qs : List PcT} {x y z : Value} (hbA : Below wr.heap.size wr w3) (hE : RowAt w3 g [x, y, z] 41) (hg : wr.heap.size ≤ g) (hp : HasPcs w3 (.slice o qs.length cp) qs) (hn : NewIn W (.slice o qs.length cp)) (hW : g < W.heap.size) :
    RG wr (((w3.setCell ⟨g, 0, none⟩ (.string ⟨d.rest.toArray⟩)).setCell ⟨g, 1, none⟩ (.bool d.bad)).setCell ⟨g, 2, none⟩ (.int .i64 d.skip)) g d o cp qs := by
  have hne : ∀ a n c, (Value.slice o qs.length cp) = .slice (some a) n c → a.block ≠ g := fun a n c e => by have := hn a n c e; omega
  exact ⟨((hE.set1 0 _).set1 1 _).set1 2 _, ((hp.grown (grown_set _ _ _ _) hne).grown (grown_set _ _ _ _) hne).grown (grown_set _ _ _ _) hne, bset (bset (bset hbA hg) hg) hg, hg, fun a n c e => by have := hn a n c e; omega⟩
theorem rk1 {W W' : World} {cs : List Value} {t : TypeId} (h : Below (W.alloc (.cells cs.toArray t)).heap.size (W.alloc (.cells cs.toArray t)) W') : RowAt W' W.heap.size cs t := (RowAt.new W cs t).below h
theorem rk2 {W W' : World} {cs : List Value} {t : TypeId} (h : Below (W.alloc (.cells cs.toArray t)).drew.heap.size (W.alloc (.cells cs.toArray t)).drew W') : RowAt W' W.heap.size cs t := (RowAt.new W cs t).drew.below h
theorem rk3 {W W' : World} {cs : List Value} {t : TypeId} (h : Below (W.drew.alloc (.cells cs.toArray t)).heap.size (W.drew.alloc (.cells cs.toArray t)) W') : RowAt W' W.heap.size cs t := (RowAt.new W.drew cs t).below h
theorem pcCs_len2 (l : List PcT) : (pcCs l).length = l.length * 2 := by
  induction l with
  | nil => rfl
  | cons s l ih =>
    show (pcC s ++ pcCs l).length = _
    rw [List.length_append, ih, List.length_cons]
    show 2 + _ = _
    omega
theorem hasRow_gram {W : World} {o : Option Addr} {m cap : Nat} {l : List PcT} (h : HasPcs W (.slice o m cap) l) (hl : l.length = m) : Ord.HasRow W (.slice o m cap) 2 m (pcCs l) := by
  unfold HasPcs at h
  rw [hl] at h
  exact h
theorem ev_neqS (x0 x1 x2 x3 : Int) (x4 : Bool) (x5 x6 x7 x8 x9 x10 x11 : Int) (w : World) : (binOp .neq 35 (.agg #[.int .u8 x0, .int .i64 x1, .int .u64 x2, .int .i64 x3, .bool x4, .int .u64 x5, .int .u64 x6, .int .i64 x7, .int .u8 x8, .int .i64 x9, .int .i64 x10, .int .i64 x11]) (.agg #[.int .u8 x0, .int .i64 x1, .int .u64 x2, .int .i64 x3, .bool x4, .int .u64 x5, .int .u64 x6, .int .i64 x7, .int .u8 x8, .int .i64 x9, .int .i64 x10, .int .i64 x11])).run Try.prog w = .ok (.bool false) w := by
  rw [run_neq_struct]
  have h := ev_inS x0 x1 x2 x3 x4 x5 x6 x7 x8 x9 x10 x11 w 9996
  rw [show (9996 + 4 : Nat) = 10000 from rfl] at h
  rw [h]
  rfl
set_option maxHeartbeats 16000000 in
set_option maxRecDepth 20000 in
theorem walk_in (o : Option Addr) (cp n : Nat) (es : List Ev) (nl : List UInt8) (os : Option Addr) (ms cs : Nat) (w : World) (HN : Hid (n = es.length)) (hn : (n : Int) ≤ 1048576) (HNL : Hid (nl.length ≤ 1048576)) (hms : (ms : Int) ≤ 1048576)
    (HE : Hid (∀ W : World, Below w.heap.size w W → HasEvs W (.slice o n cp) es)) (HF : Hid (∀ e ∈ es, FitE e))
    (HZ : Hid (∀ W : World, Below w.heap.size w W → ∀ i, i < ms → ∃ (b j0 z : Nat), os = some ⟨b, j0, none⟩ ∧ b < W.heap.size ∧ W.cell? ⟨b, j0 + i, none⟩ = some (.int .u8 (z : Int)) ∧ z ≤ 255))
    (kl : ∀ W : World, Calls Try.prog 5 #[] W fun e w' => e = .returned (.bool true) ∧ Below W.heap.size W w') :
    Calls Try.prog 3 #[.string ⟨nl.toArray⟩, .slice o n cp, .slice os ms cs] w fun e w' => e = .returned (.bool true) ∧ Below w.heap.size w w' := by
  obtain ⟨N, hN⟩ : ∃ N : ByteArray, N = ⟨nl.toArray⟩ := ⟨_, rfl⟩
  have HNd : Hid (N = ⟨nl.toArray⟩) := hN
  have HNs : Hid (N.size = nl.length) := by show _ = _; rw [hN]; exact size_list nl
  have HNe : Hid (N.toList.isEmpty = nl.isEmpty) := by show _ = _; rw [hN, ByteArray.toList_eq]
  have HAt : Hid (∀ j (h : j < N.size) (h2 : j < nl.length), N[j]'h = nl[j]'h2) := by intro j h h2; subst hN; rfl
  have hNi : (N.size : Int) ≤ 1048576 := by have := HNL.out; have := HNs.out; omega
  rw [← hN]
  clear hN
  go_enter Try.func3, Try.ntmps3
  go_wp2_with fail
  go_at_call 5; refine (kl _).mono ?_; rintro e w1 ⟨rfl, hb1⟩
  clear kl
  go_wp2_with fail
  go_loopw [30] (fun i wr => ∃ k : Nat, k ≤ N.size ∧ i = .int .i64 k ∧ Below w.heap.size w wr ∧ Hid (∀ j (h : j < N.size), j < k → ¬ (N[j]'h).toNat = 245)) (fun i _ => N.size - (intOf i).toNat)
  case atStart => exact ⟨0, Nat.zero_le _, rfl, hb1, fun j h hj => absurd hj (Nat.not_lt_zero _)⟩
  case round =>
    obtain ⟨k, hk, rfl, hB, HI⟩ := hrel
    clear hb1
    by_cases hlt : k < N.size
    · obtain ⟨b, hb⟩ : ∃ b, b = N[k]'hlt := ⟨_, rfl⟩
      have h0 : ∀ h : k < N.size, N[k]'h = b := fun h => hb.symm
      have HB : Hid (b = N[k]'hlt) := hb
      have hki : (k : Int) < (N.size : Int) := by omega
      clear hb HAt
      by_cases h245 : b.toNat = 245
      · have h245i : ((b.toNat : Nat) : Int) = 245 := by omega
        go_wp2_with fail
        go_ret
        exact ⟨rfl, hB⟩
      · have h245i : ¬ ((b.toNat : Nat) : Int) = 245 := by omega
        have HNN : Hid (¬ b.toNat = 245) := h245
        go_wp2_with fail
        go_roundw
        case rel =>
          refine ⟨k + 1, by omega, by go_num, hB, fun j h hj => ?_⟩
          by_cases hjk : j = k
          · subst hjk; rw [← HB.out]; exact HNN.out
          · exact HI.out j h (by omega)
        case measure => simp [intOf]; omega
    · have HNO : Hid (∀ b ∈ nl, b ≠ 245) := fun b hb hc => by
        obtain ⟨i, hi, e⟩ := List.getElem_of_mem hb
        have hi2 : i < N.size := by rw [HNs.out]; exact hi
        have h3 := HI.out i hi2 (by omega)
        apply h3
        rw [HAt.out i hi2 hi, e, hc]
        rfl
      have hkn : decide ((k : Int) < (N.size : Int)) = false := decide_eq_false (by omega)
      clear HI HAt
      go_upto_region 10 with fail
      obtain ⟨wA, hwA⟩ : ∃ wA, wA = wr := ⟨_, rfl⟩
      subst hwA
      clear hkn hlt hk
      go_wp2_with fail
      go_loopw [7, 40] (fun s i wr => ∃ k : Nat, k ≤ n ∧ i = .int .i64 k ∧ s = .string ⟨(wraps (es.take k)).toArray⟩ ∧ Below w.heap.size w wr ∧ Hid (∀ e ∈ es.take k, okE e = true)) (fun _ i _ => n - (intOf i).toNat)
      case atStart => exact ⟨0, Nat.zero_le _, rfl, rfl, hB, fun e he => absurd he (by simp)⟩
      case round =>
        obtain ⟨k, hk, rfl, rfl, hB2, HO⟩ := hrel
        clear hB
        have hsl := wraps_len (es.take k) HO.out
        have hsl2 : (wraps (es.take k)).length ≤ 70254592 := by
          refine Nat.le_trans hsl ?_
          have : (es.take k).length ≤ 1048576 := by rw [List.length_take]; omega
          omega
        by_cases hlt : k < n
        · have hkz : k < es.length := by rw [← HN.out]; exact hlt
          obtain ⟨g1, i1, rfl, hg1, a0, a1, a2, a3, a4, a5, a6, a7, a8, a9, a10, a11⟩ := HasEvs.cell (HE.out _ hB2) k hkz
          have hfe := HF.out es[k] (List.getElem_mem hkz)
          have HS : Hid (wraps (es.take (k + 1)) = wraps (es.take k) ++ Gram.wrapL (evB es[k])) := wraps_take es k hkz
          have HT : Hid (es.take (k + 1) = es.take k ++ [es[k]]) := List.take_succ_eq_append_getElem hkz
          obtain ⟨e0, he0⟩ : ∃ e0 : Ev, e0 = es[k] := ⟨_, rfl⟩
          rw [← he0] at a0 a1 a2 a3 a4 a5 a6 a7 a8 a9 a10 a11 hfe HS HT
          have cN := fun W : World => eput_any e0 W hfe
          have hck : checkE e0 = if okE e0 = true then 0 else 2 := rfl
          rw [hck] at cN
          have hki : (k : Int) < (n : Int) := by omega
          unfold evV evC at cN
          clear he0 hg1 hfe hck
          generalize ((e0.kind : Nat) : Int) = p0 at a0 cN
          generalize e0.router = p1 at a1 cN
          generalize ((e0.seq : Nat) : Int) = p2 at a2 cN
          generalize e0.time = p3 at a3 cN
          generalize e0.pf.six = p4 at a4 cN
          generalize ((hiN e0.pf.n : Nat) : Int) = p5 at a5 cN
          generalize ((loN e0.pf.n : Nat) : Int) = p6 at a6 cN
          generalize e0.pf.len = p7 at a7 cN
          generalize ((e0.act.k : Nat) : Int) = p8 at a8 cN
          generalize e0.act.i = p9 at a9 cN
          generalize e0.iface = p10 at a10 cN
          generalize e0.peer = p11 at a11 cN
          go_upto_region 13 with fail
          obtain ⟨X, hX⟩ : ∃ X, X = wr.alloc (.cells #[.int .u8 p0, .int .i64 p1, .int .u64 p2, .int .i64 p3, .bool p4, .int .u64 p5, .int .u64 p6, .int .i64 p7, .int .u8 p8, .int .i64 p9, .int .i64 p10, .int .i64 p11] 35) := ⟨_, rfl⟩
          have hbX : Below wr.heap.size wr X := by rw [hX]; exact below_new (Below.refl _ _) _
          have r0 : RowAt X wr.heap.size [.int .u8 p0, .int .i64 p1, .int .u64 p2, .int .i64 p3, .bool p4, .int .u64 p5, .int .u64 p6, .int .i64 p7, .int .u8 p8, .int .i64 p9, .int .i64 p10, .int .i64 p11] 35 := by rw [hX]; exact RowAt.new _ _ _
          rw [← hX]
          replace hB2 := below2 hB2 hbX
          clear hX hbX a0 a1 a2 a3 a4 a5 a6 a7 a8 a9 a10 a11
          generalize wr.heap.size = gs at r0 ⊢
          obtain ⟨⟨y0, y1, y2, y3, y4, y5⟩, ⟨y6, y7, y8, y9, y10, y11⟩, yf, hly⟩ := cells12' r0
          cases hoe : okE e0
          · rw [hoe] at cN
            simp only [Bool.false_eq_true, if_false] at cN
            have cW : ∀ W : World, Calls Try.prog 7 #[.string ⟨#[]⟩] W fun e w' => e = .returned (.tuple #[.string ⟨#[]⟩, .int .i64 11]) ∧ Below W.heap.size W w' := fun W => Gram.wrap_any [] W (by decide)
            clear HS HT
            go_wp2_with fail
            go_at_call 6; refine (cN _).mono ?_; rintro e w2 ⟨rfl, hb2⟩
            replace hB2 := below2 hB2 hb2
            go_wp2_with fail
            go_at_call 7; refine (cW _).mono ?_; rintro e w3 ⟨rfl, hb3⟩
            replace hB2 := below2 hB2 hb3
            go_wp2_with fail
            go_ret
            exact ⟨by first | rfl | simp, hB2⟩
          · rw [hoe] at cN
            simp only [if_true] at cN
            have hbl := evB_len e0 hoe
            have cW : ∀ W : World, Calls Try.prog 7 #[.string ⟨(evB e0).toArray⟩] W fun e w' => e = .returned (.tuple #[.string ⟨(Gram.wrapL (evB e0)).toArray⟩, .int .i64 0]) ∧ Below W.heap.size W w' := fun W => by
              have := Gram.wrap_any (evB e0) W (by omega)
              rw [show Gram.fitN (evB e0).length = true from by unfold Gram.fitN; exact decide_eq_true ⟨by omega, by omega⟩] at this
              exact this
            have HO2 : Hid (∀ e ∈ es.take (k + 1), okE e = true) := fun e he => by
              rw [HT.out] at he
              rcases List.mem_append.1 he with he | he
              · exact HO.out e he
              · simp at he; rw [he]; exact hoe
            have hcat2 := bytes_cat (wraps (es.take k)) (Gram.wrapL (evB e0))
            rw [← HS.out] at hcat2
            have hwl : (Gram.wrapL (evB e0)).length = 3 + (evB e0).length := by simp [Gram.wrapL]; omega
            have q2 : (((wraps (es.take k)).length : Nat) : Int) + (((Gram.wrapL (evB e0)).length : Nat) : Int) ≤ 140000000000000 := by omega
            have q4 : (((wraps (es.take k)).length : Nat) : Int) ≤ 140000000000000 := by omega
            have q5 : (((Gram.wrapL (evB e0)).length : Nat) : Int) ≤ 67 := by omega
            clear HS HT hsl hsl2 HO hwl hbl
            generalize hs2 : wraps (es.take (k + 1)) = s2 at *
            have HS2 : Hid (wraps (es.take (k + 1)) = s2) := hs2
            clear hs2
            generalize wraps (es.take k) = s1 at *
            generalize Gram.wrapL (evB e0) = s4 at *
            generalize evB e0 = s5 at *
            go_wp2_with fail
            go_at_call 6; refine (cN _).mono ?_; rintro e w2 ⟨rfl, hb2⟩
            replace hB2 := below2 hB2 hb2
            go_wp2_with fail
            go_at_call 7; refine (cW _).mono ?_; rintro e w3 ⟨rfl, hb3⟩
            replace hB2 := below2 hB2 hb3
            go_wp2_with fail
            go_roundw
            case rel => exact ⟨k + 1, by omega, by go_num, by rw [HS2.out], hB2, HO2⟩
            case measure => simp [intOf]; omega
        · have hkn : decide ((k : Int) < (n : Int)) = false := decide_eq_false (by omega)
          have hte : es.take k = es := by have := HN.out; exact List.take_of_length_le (by omega)
          have HOK : Hid (∀ e ∈ es, okE e = true) := by intro e he; exact HO.out e (by rw [hte]; exact he)
          obtain ⟨wh, hwh⟩ : ∃ wh, wh = nl ++ wraps es := ⟨_, rfl⟩
          have HFS : Hid ((feedC zeroC wh).1.rest = [] ∧ (feedC zeroC wh).1.skip = 0 ∧ (feedC zeroC wh).2 = (if nl = [] then [] else [(2, [])]) ++ evP es) := by rw [hwh]; exact feed_stream nl HNO.out es HOK.out
          have HWL : Hid (wh.length ≤ 72000000) := by
            show _ ≤ _
            have := HNL.out
            rw [hwh, List.length_append]
            rw [hte] at hsl2
            omega
          have hcat : N ++ (⟨(wraps (es.take k)).toArray⟩ : ByteArray) = ⟨wh.toArray⟩ := by rw [HNd.out, bytes_cat, hte, hwh]
          have q1 : (N.size : Int) + (((wraps (es.take k)).length : Nat) : Int) ≤ 140000000000000 := by omega
          clear hwh hte hsl HO HNO
          generalize wraps (es.take k) = s1 at *
          go_upto_region 21 with fail
          obtain ⟨wB, hwB⟩ : ∃ wB, wB = wr := ⟨_, rfl⟩
          subst hwB
          clear hkn hlt hk
          go_upto_region 23 with fail
          obtain ⟨Y, hY⟩ : ∃ Y, Y = wB.alloc (.cells #[.string ⟨#[]⟩, .bool false, .int .i64 0] 41) := ⟨_, rfl⟩
          have hA : At w Y wB.heap.size zeroC (.slice none 0 0) [] := ⟨by rw [hY]; exact RowAt.new _ _ _, World.ownsRow_nil _ _ _ _, by rw [hY]; exact below_new hB2 _, by rw [hY]; simp, hB2.size⟩
          rw [← hY]
          clear hY hB2 hsl2 q1 hcat
          generalize wB.heap.size = g at hA ⊢
          have HA : Hid (At w Y g zeroC (.slice none 0 0) []) := hA
          clear hA
          have HFD : Hid (∀ d : Ct, okC d = true → ∀ (W : World) (l : List UInt8), l.length ≤ 1099511627776 → Calls Try.prog 8 #[ctV d, .string ⟨l.toArray⟩] W fun e w' => ∃ V, e = .returned (.tuple #[ctV (feedC d l).1, V, .int .i64 0]) ∧ (HasPcs w' V (feedC d l).2 ∧ NewIn W V) ∧ Below W.heap.size W w') := fun d hd W l hl => by
            have hrl := rest_le hd
            have hsk := ((okC_iff d).1 hd).2.1
            have := feedN_any d l W ⟨by omega, by omega, by omega⟩ hl
            rw [(fed_ok hd l).1, (fed_ok hd l).2] at this
            exact this
          go_wp2_with fail
          go_loopw [7, 16, 17] (fun s p i wr => ∃ (ca ra : List UInt8) (k : Nat) (o5 : Option Addr) (c5 : Nat), Hid (ca ++ ra = wh) ∧ k ≤ ms + 1 ∧ i = .int .i64 k ∧ s = .string ⟨ra.toArray⟩ ∧ p = .slice o5 (feedC zeroC ca).2.length c5 ∧ (ms < k → ra = []) ∧ Hid (At w wr g (feedC zeroC ca).1 (.slice o5 (feedC zeroC ca).2.length c5) (feedC zeroC ca).2)) (fun s _ i _ => sLen s + (ms - (intOf i).toNat))
          case atStart => exact ⟨[], wh, 0, none, 0, rfl, Nat.zero_le _, rfl, rfl, rfl, fun h => absurd h (Nat.not_lt_zero _), HA⟩
          case round =>
            obtain ⟨ca, ra, k, o5, c5, HC, hk, rfl, rfl, rfl, hend, HI⟩ := hrel
            have hI := HI.out
            by_cases hra : ra = []
            · subst hra
              have hcw : ca = wh := by have := HC.out; rw [List.append_nil] at this; exact this
              subst hcw
              obtain ⟨hr0, hs0, hp0⟩ := HFS.out
              obtain ⟨wE, hwE⟩ : ∃ wE, wE = wr := ⟨_, rfl⟩
              subst hwE
              have hBE := hI.bl
              obtain ⟨c1, hc1⟩ : ∃ c1, c1 = (feedC zeroC ca).1 := ⟨_, rfl⟩
              have HCB : Hid (RowAt wE g [.string ⟨#[]⟩, .bool c1.bad, .int .i64 0] 41) := by
                have := hI.cc
                rw [hr0, hs0, ← hc1] at this
                exact this
              have how := hI.ow
              rw [hp0] at how
              rw [hp0]
              have hneq := ev_neqS
              have hgd := Msg.ev_guard
              clear hend hk HC HFS HWL HFD HI hI hr0 hs0 hp0 HZ hc1 HA
              have hNE := HNe.out
              by_cases hnl : nl = []
              · rw [if_pos hnl, List.nil_append] at how
                rw [if_pos hnl, List.nil_append]
                rw [hnl] at hNE
                simp only [List.isEmpty_nil] at hNE
                have hpc : HasPcs wE (.slice o5 (evP es).length c5) (evP es) := hasRow_own how
                have hle : (evP es).length = n := by unfold evP; rw [List.length_map]; exact HN.out.symm
                rw [hle] at hpc ⊢
                have HP4 : Hid (∀ W : World, Below wE.heap.size wE W → HasPcs W (.slice o5 n c5) (evP es)) := fun W hb => hpc.keep hb
                have hnn : ((n : Int) != (n : Int)) = false := by simp
                clear how hpc hle hnl
                go_wp2_with fail
                go_loopw [123] (fun i wr => ∃ k : Nat, k ≤ n ∧ i = .int .i64 k ∧ Below wE.heap.size wE wr) (fun i _ => n - (intOf i).toNat)
                case atStart => exact ⟨0, Nat.zero_le _, rfl, Below.refl _ _⟩
                case round =>
                  obtain ⟨k, hk, rfl, hB6⟩ := hrel
                  by_cases hlt : k < n
                  · have hkz : k < es.length := by rw [← HN.out]; exact hlt
                    have hkp : k < (evP es).length := by unfold evP; rw [List.length_map]; exact hkz
                    obtain ⟨g1, i1, rfl, hg1, a0, a1, a2, a3, a4, a5, a6, a7, a8, a9, a10, a11⟩ := HasEvs.cell (HE.out _ (below2 hBE hB6)) k hkz
                    obtain ⟨g2, i2, eg, hg2, b0, b1⟩ := HasPcs.cell (HP4.out _ hB6) k hkp
                    subst eg
                    have hpk : (evP es)[k] = (1, evB es[k]) := Gram.evP_at es k hkp hkz
                    rw [hpk] at b0 b1
                    have hok := HOK.out es[k] (List.getElem_mem hkz)
                    have hbl := evB_len es[k] hok
                    have cN := fun W : World => eget_any (evB es[k]) W (by omega)
                    rw [get_put es[k] hok] at cN
                    unfold strV at b1
                    obtain ⟨e0, he0⟩ : ∃ e0 : Ev, e0 = es[k] := ⟨_, rfl⟩
                    rw [← he0] at a0 a1 a2 a3 a4 a5 a6 a7 a8 a9 a10 a11 b0 b1 cN
                    simp only at b0 b1 cN
                    unfold evV evC at cN
                    generalize (⟨(evB e0).toArray⟩ : ByteArray) = BD at b1 cN
                    have hki : (k : Int) < (n : Int) := by omega
                    have hw1 := hB6.size
                    have kA : ∀ (W : World), Below wr.heap.size wr W → ∀ j, W.cell? ⟨g1, j, none⟩ = wr.cell? ⟨g1, j, none⟩ := fun W hb j => hb.cell (p := ⟨g1, j, none⟩) hg1
                    clear he0 hok hbl hpk hkp hg2
                    generalize ((e0.kind : Nat) : Int) = p0 at a0 cN
                    generalize e0.router = p1 at a1 cN
                    generalize ((e0.seq : Nat) : Int) = p2 at a2 cN
                    generalize e0.time = p3 at a3 cN
                    generalize e0.pf.six = p4 at a4 cN
                    generalize ((hiN e0.pf.n : Nat) : Int) = p5 at a5 cN
                    generalize ((loN e0.pf.n : Nat) : Int) = p6 at a6 cN
                    generalize e0.pf.len = p7 at a7 cN
                    generalize ((e0.act.k : Nat) : Int) = p8 at a8 cN
                    generalize e0.act.i = p9 at a9 cN
                    generalize e0.iface = p10 at a10 cN
                    generalize e0.peer = p11 at a11 cN
                    go_upto_region 43 with fail
                    obtain ⟨X, hX⟩ : ∃ X, X = wr.alloc (.cells #[.int .u8 1, .string BD] 47) := ⟨_, rfl⟩
                    have hbX : Below wr.heap.size wr X := by rw [hX]; exact below_new (Below.refl _ _) _
                    have r0 : RowAt X wr.heap.size [.int .u8 1, .string BD] 47 := by rw [hX]; exact RowAt.new _ _ _
                    rw [← hX]
                    clear hX b0 b1
                    generalize hgs : wr.heap.size = gs at r0 ⊢
                    clear hgs
                    obtain ⟨y0, y1, yf⟩ := Addr.cells2 r0
                    go_wp2_with fail
                    go_at_call 9; refine (cN _).mono ?_; rintro e w6 ⟨rfl, hb6⟩
                    have hbY := below2 hbX hb6
                    replace r0 := r0.below hb6
                    clear cN y0 y1 yf hb6 hbX
                    go_upto_region 44 with fail
                    obtain ⟨Y, hY⟩ : ∃ Y, Y = w6.alloc (.cells #[.int .u8 p0, .int .i64 p1, .int .u64 p2, .int .i64 p3, .bool p4, .int .u64 p5, .int .u64 p6, .int .i64 p7, .int .u8 p8, .int .i64 p9, .int .i64 p10, .int .i64 p11] 35) := ⟨_, rfl⟩
                    have hbZ : Below w6.heap.size w6 Y := by rw [hY]; exact below_new (Below.refl _ _) _
                    have r1 : RowAt Y w6.heap.size [.int .u8 p0, .int .i64 p1, .int .u64 p2, .int .i64 p3, .bool p4, .int .u64 p5, .int .u64 p6, .int .i64 p7, .int .u8 p8, .int .i64 p9, .int .i64 p10, .int .i64 p11] 35 := by rw [hY]; exact RowAt.new _ _ _
                    rw [← hY]
                    replace r0 := r0.below hbZ
                    replace hbY := below2 hbY hbZ
                    have hB7 := below2 hB6 hbY
                    clear hY hbZ
                    generalize w6.heap.size = gt at r1 ⊢
                    obtain ⟨y0, y1, yf⟩ := Addr.cells2 r0
                    obtain ⟨⟨z0, z1, z2, z3, z4, z5⟩, ⟨z6, z7, z8, z9, z10, z11⟩, zf, hlz⟩ := cells12' r1
                    rw [← kA Y hbY] at a0
                    rw [← kA Y hbY] at a1
                    rw [← kA Y hbY] at a2
                    rw [← kA Y hbY] at a3
                    rw [← kA Y hbY] at a4
                    rw [← kA Y hbY] at a5
                    rw [← kA Y hbY] at a6
                    rw [← kA Y hbY] at a7
                    rw [← kA Y hbY] at a8
                    rw [← kA Y hbY] at a9
                    rw [← kA Y hbY] at a10
                    rw [← kA Y hbY] at a11
                    clear kA hbY r0 r1
                    go_wp2_with fail
                    go_quiet (fail)
                    go_wp2_with fail
                    go_roundw
                    case rel => exact ⟨k + 1, by omega, by go_num, by first | exact hB7 | exact below_drew hB7 | exact below_drewN hB7 _⟩
                    case measure => simp [intOf]; omega
                  · have hkn : decide ((k : Int) < (n : Int)) = false := decide_eq_false (by omega)
                    obtain ⟨x0, x1, x2, xf⟩ := cells3 (HCB.out.below hB6)
                    go_wp2_with fail
                    go_ret
                    exact ⟨by first | rfl | simp, below2 hBE hB6⟩

              · rw [if_neg hnl] at how
                rw [if_neg hnl]
                have hNE2 : N.toList.isEmpty = false := by
                  rw [hNE]
                  cases nl with
                  | nil => exact absurd rfl hnl
                  | cons a b => rfl
                have hle : ([((2, []) : PcT)] ++ evP es).length = n + 1 := by unfold evP; rw [List.length_append, List.length_map, HN.out]; simp; omega
                rw [hle] at how
                rw [hle]
                obtain ⟨gp, rfl, hcp1, hcp2⟩ : ∃ gp, o5 = some ⟨gp, 0, none⟩ ∧ n + 1 ≤ c5 ∧ c5 ≤ 9223372036854775807 := by
                  rcases how.2 with ⟨_, h0⟩ | ⟨gg, cap, cur, e, _, _, h1, h2, _⟩
                  · omega
                  · injection e with e1 e2 e3
                    subst e1 e3
                    exact ⟨gg, rfl, h1, by unfold maxLen at h2; exact h2⟩
                have hpc : HasPcs wE (.slice (some ⟨gp, 0, none⟩) (n + 1) c5) ([(2, [])] ++ evP es) := by
                  have := hasRow_own how
                  unfold HasPcs
                  rw [hle]
                  exact this
                obtain ⟨g9, i9, e9, hg9, d0, d1⟩ := HasPcs.cell hpc 0 (by rw [hle]; omega)
                injection e9 with e9
                injection e9 with e91 e92
                subst e91 e92
                have d00 : wE.cell? ⟨gp, 0, none⟩ = some (.int .u8 2) := d0
                have hn1 : ¬ ((n : Int) + 1 = 0) := by omega
                have hn2 : (0 : Int) < (n : Int) + 1 := by omega
                have e11 : n + 1 - 1 = n := by omega
                have hnn : ((n : Int) != (n : Int)) = false := by simp
                have hprt : ∀ (W : World) (c' : Nat), n ≤ c' → c' ≤ 9223372036854775807 → Below wE.heap.size wE W → HasPcs W (.slice (some ⟨gp, 2, none⟩) n c') (evP es) := fun W c' h1 h2 hb => by
                  have hq := Gram.row_part (hasRow_gram (hpc.keep hb) hle) 1 n (by omega) c' h1 h2
                  have e : ((pcCs ([(2, [])] ++ evP es)).drop (1 * 2)).take (n * 2) = pcCs (evP es) := by
                    show ((pcCs (evP es))).take (n * 2) = _
                    exact List.take_of_length_le (by rw [pcCs_len2, show (evP es).length = n from by unfold evP; rw [List.length_map]; exact HN.out.symm]; exact Nat.le_refl _)
                  rw [e] at hq
                  unfold HasPcs
                  rw [show (evP es).length = n from by unfold evP; rw [List.length_map]; exact HN.out.symm]
                  exact hq
                clear how d0 d1 hg9 hNE hnl
                by_cases hc1 : c5 = 1
                · subst hc1
                  have hn0 : es = [] := by have := HN.out; exact List.eq_nil_of_length_eq_zero (by omega)
                  have HP4 : Hid (∀ W : World, Below wE.heap.size wE W → HasPcs W (.slice (some ⟨gp, 0, none⟩) n 0) (evP es)) := fun W hb => by
                    have hn00 : n = 0 := by omega
                    rw [hn0, hn00]
                    exact ⟨rfl, .inr ⟨⟨gp, 0, none⟩, 0, rfl, Nat.le_refl _, by decide, fun h => absurd h (by decide), fun j hj => absurd hj (by simp [evP])⟩⟩
                  clear hprt hpc hle hn0 hcp2
                  go_wp2_with fail
                  go_loopw [123] (fun i wr => ∃ k : Nat, k ≤ n ∧ i = .int .i64 k ∧ Below wE.heap.size wE wr) (fun i _ => n - (intOf i).toNat)
                  case atStart => exact ⟨0, Nat.zero_le _, rfl, Below.refl _ _⟩
                  case round =>
                    obtain ⟨k, hk, rfl, hB6⟩ := hrel
                    by_cases hlt : k < n
                    · omega
                    · have hkn : decide ((k : Int) < (n : Int)) = false := decide_eq_false (by omega)
                      obtain ⟨x0, x1, x2, xf⟩ := cells3 (HCB.out.below hB6)
                      go_wp2_with fail
                      go_ret
                      exact ⟨by first | rfl | simp, below2 hBE hB6⟩

                · have HP4 : Hid (∀ W : World, Below wE.heap.size wE W → HasPcs W (.slice (some ⟨gp, 2, none⟩) n (c5 - 1)) (evP es)) := fun W hb => hprt W (c5 - 1) (by omega) (by omega) hb
                  clear hprt hpc hle
                  go_wp2_with fail
                  go_loopw [123] (fun i wr => ∃ k : Nat, k ≤ n ∧ i = .int .i64 k ∧ Below wE.heap.size wE wr) (fun i _ => n - (intOf i).toNat)
                  case atStart => exact ⟨0, Nat.zero_le _, rfl, Below.refl _ _⟩
                  case round =>
                    obtain ⟨k, hk, rfl, hB6⟩ := hrel
                    by_cases hlt : k < n
                    · have hkz : k < es.length := by rw [← HN.out]; exact hlt
                      have hkp : k < (evP es).length := by unfold evP; rw [List.length_map]; exact hkz
                      obtain ⟨g1, i1, rfl, hg1, a0, a1, a2, a3, a4, a5, a6, a7, a8, a9, a10, a11⟩ := HasEvs.cell (HE.out _ (below2 hBE hB6)) k hkz
                      obtain ⟨g2, i2, eg, hg2, b0, b1⟩ := HasPcs.cell (HP4.out _ hB6) k hkp
                      injection eg with eg
                      injection eg with eg1 eg2
                      subst eg1 eg2
                      have hpk : (evP es)[k] = (1, evB es[k]) := Gram.evP_at es k hkp hkz
                      rw [hpk] at b0 b1
                      have hok := HOK.out es[k] (List.getElem_mem hkz)
                      have hbl := evB_len es[k] hok
                      have cN := fun W : World => eget_any (evB es[k]) W (by omega)
                      rw [get_put es[k] hok] at cN
                      unfold strV at b1
                      obtain ⟨e0, he0⟩ : ∃ e0 : Ev, e0 = es[k] := ⟨_, rfl⟩
                      rw [← he0] at a0 a1 a2 a3 a4 a5 a6 a7 a8 a9 a10 a11 b0 b1 cN
                      simp only at b0 b1 cN
                      unfold evV evC at cN
                      generalize (⟨(evB e0).toArray⟩ : ByteArray) = BD at b1 cN
                      have hki : (k : Int) < (n : Int) := by omega
                      have hw1 := hB6.size
                      have kA : ∀ (W : World), Below wr.heap.size wr W → ∀ j, W.cell? ⟨g1, j, none⟩ = wr.cell? ⟨g1, j, none⟩ := fun W hb j => hb.cell (p := ⟨g1, j, none⟩) hg1
                      clear he0 hok hbl hpk hkp hg2
                      generalize ((e0.kind : Nat) : Int) = p0 at a0 cN
                      generalize e0.router = p1 at a1 cN
                      generalize ((e0.seq : Nat) : Int) = p2 at a2 cN
                      generalize e0.time = p3 at a3 cN
                      generalize e0.pf.six = p4 at a4 cN
                      generalize ((hiN e0.pf.n : Nat) : Int) = p5 at a5 cN
                      generalize ((loN e0.pf.n : Nat) : Int) = p6 at a6 cN
                      generalize e0.pf.len = p7 at a7 cN
                      generalize ((e0.act.k : Nat) : Int) = p8 at a8 cN
                      generalize e0.act.i = p9 at a9 cN
                      generalize e0.iface = p10 at a10 cN
                      generalize e0.peer = p11 at a11 cN
                      go_upto_region 43 with fail
                      obtain ⟨X, hX⟩ : ∃ X, X = wr.alloc (.cells #[.int .u8 1, .string BD] 47) := ⟨_, rfl⟩
                      have hbX : Below wr.heap.size wr X := by rw [hX]; exact below_new (Below.refl _ _) _
                      have r0 : RowAt X wr.heap.size [.int .u8 1, .string BD] 47 := by rw [hX]; exact RowAt.new _ _ _
                      rw [← hX]
                      clear hX b0 b1
                      generalize hgs : wr.heap.size = gs at r0 ⊢
                      clear hgs
                      obtain ⟨y0, y1, yf⟩ := Addr.cells2 r0
                      go_wp2_with fail
                      go_at_call 9; refine (cN _).mono ?_; rintro e w6 ⟨rfl, hb6⟩
                      have hbY := below2 hbX hb6
                      replace r0 := r0.below hb6
                      clear cN y0 y1 yf hb6 hbX
                      go_upto_region 44 with fail
                      obtain ⟨Y, hY⟩ : ∃ Y, Y = w6.alloc (.cells #[.int .u8 p0, .int .i64 p1, .int .u64 p2, .int .i64 p3, .bool p4, .int .u64 p5, .int .u64 p6, .int .i64 p7, .int .u8 p8, .int .i64 p9, .int .i64 p10, .int .i64 p11] 35) := ⟨_, rfl⟩
                      have hbZ : Below w6.heap.size w6 Y := by rw [hY]; exact below_new (Below.refl _ _) _
                      have r1 : RowAt Y w6.heap.size [.int .u8 p0, .int .i64 p1, .int .u64 p2, .int .i64 p3, .bool p4, .int .u64 p5, .int .u64 p6, .int .i64 p7, .int .u8 p8, .int .i64 p9, .int .i64 p10, .int .i64 p11] 35 := by rw [hY]; exact RowAt.new _ _ _
                      rw [← hY]
                      replace r0 := r0.below hbZ
                      replace hbY := below2 hbY hbZ
                      have hB7 := below2 hB6 hbY
                      clear hY hbZ
                      generalize w6.heap.size = gt at r1 ⊢
                      obtain ⟨y0, y1, yf⟩ := Addr.cells2 r0
                      obtain ⟨⟨z0, z1, z2, z3, z4, z5⟩, ⟨z6, z7, z8, z9, z10, z11⟩, zf, hlz⟩ := cells12' r1
                      rw [← kA Y hbY] at a0
                      rw [← kA Y hbY] at a1
                      rw [← kA Y hbY] at a2
                      rw [← kA Y hbY] at a3
                      rw [← kA Y hbY] at a4
                      rw [← kA Y hbY] at a5
                      rw [← kA Y hbY] at a6
                      rw [← kA Y hbY] at a7
                      rw [← kA Y hbY] at a8
                      rw [← kA Y hbY] at a9
                      rw [← kA Y hbY] at a10
                      rw [← kA Y hbY] at a11
                      clear kA hbY r0 r1
                      go_wp2_with fail
                      go_quiet (fail)
                      go_wp2_with fail
                      go_roundw
                      case rel => exact ⟨k + 1, by omega, by go_num, by first | exact hB7 | exact below_drew hB7 | exact below_drewN hB7 _⟩
                      case measure => simp [intOf]; omega
                    · have hkn : decide ((k : Int) < (n : Int)) = false := decide_eq_false (by omega)
                      obtain ⟨x0, x1, x2, xf⟩ := cells3 (HCB.out.below hB6)
                      go_wp2_with fail
                      go_ret
                      exact ⟨by first | rfl | simp, below2 hBE hB6⟩

            · have hpos : 0 < ra.length := List.length_pos_iff.2 hra
              have hrl : ra.length ≤ 72000000 := by have h2 := congrArg List.length HC.out; rw [List.length_append] at h2; have := HWL.out; omega
              have hkm : k ≤ ms := by rcases Nat.lt_or_ge ms k with h | h; exact absurd (hend h) hra; exact h
              obtain ⟨S, hS⟩ : ∃ S : ByteArray, S = ⟨ra.toArray⟩ := ⟨_, rfl⟩
              have HS : Hid (S = ⟨ra.toArray⟩) := hS
              have HSz : Hid (S.size = ra.length) := by show _ = _; rw [hS]; exact size_list ra
              have hne : S.toList.isEmpty = false := by
                rw [hS, ByteArray.toList_eq]
                cases ra with
                | nil => exact absurd rfl hra
                | cons a b => rfl
              have hSi : (S.size : Int) ≤ 72000000 := by have := HSz.out; omega
              rw [← hS]
              clear hS hend hra
              by_cases hi : k < ms
              · obtain ⟨bz, jz, z, rfl, hbz, az, hz255⟩ := HZ.out wr hI.bl k hi
                obtain ⟨q, hq⟩ : ∃ q, q = min S.size z := ⟨_, rfl⟩
                have hmin : min (S.size : Int) (z : Int) = (q : Int) := by omega
                have hmin2 : min S.size z = q := hq.symm
                have hqs : q ≤ S.size := by omega
                have hki : (k : Int) < (ms : Int) := by omega
                have hqi : (q : Int) ≤ (S.size : Int) := by omega
                clear hq
                have hQ : q ≤ ra.length := by have := HSz.out; omega
                have hCH : S.extract 0 q = ⟨(ra.take q).toArray⟩ := by rw [HS.out]; exact Msg.take_pre ra _ (by first | exact hQ | (rw [← HS.out]; exact hQ))
                have hRS : S.extract q S.size = ⟨(ra.drop q).toArray⟩ := by rw [HSz.out, HS.out]; exact Msg.drop_suf ra _ hQ
                have HW2 : Hid ((ca ++ ra.take q) ++ ra.drop q = wh) := by show _ = _; rw [List.append_assoc, List.take_append_drop]; exact HC.out
                have HAP : Hid (feedC zeroC (ca ++ ra.take q) = ((feedC (feedC zeroC ca).1 (ra.take q)).1, (feedC zeroC ca).2 ++ (feedC (feedC zeroC ca).1 (ra.take q)).2)) := feed_app ca (ra.take q) zeroC
                have hok : okC (feedC zeroC ca).1 = true := feed_ok ca (by decide)
                have hpl2 : (feedC zeroC (ca ++ ra.take q)).2.length ≤ 72000000 := by
                  have h1 := feed_len (ca ++ ra.take q) zeroC
                  have h2 := congrArg List.length HW2.out
                  rw [List.length_append] at h2
                  have h3 := HWL.out
                  omega
                have cfd0 := fun W : World => HFD.out (feedC zeroC ca).1 hok W (ra.take q) (by have := HWL.out; have h2 := congrArg List.length HC.out; rw [List.length_append] at h2; rw [List.length_take]; omega)
                have HED : Hid (ms < k + 1 → ra.drop q = []) := fun h => absurd h (by omega)
                have HLN : Hid ((ra.drop q).length + (ms - (k + 1)) < ra.length + (ms - k)) := by show _ < _; rw [List.length_drop]; omega
                generalize hCA2 : ca ++ ra.take q = ca2 at HAP HW2 hpl2
                have HCA : Hid (ca ++ ra.take q = ca2) := hCA2
                generalize hRA2 : ra.drop q = ra2 at *
                have HRA : Hid (ra.drop q = ra2) := hRA2
                generalize ra.take q = ch at *
                clear hCA2 hRA2
                generalize feedC zeroC ca = F at *
                obtain ⟨⟨rd, bd, sd⟩, ps⟩ := F
                generalize hF2 : feedC zeroC ca2 = F2 at *
                have HFF : Hid (feedC zeroC ca2 = F2) := hF2
                clear hF2
                simp only at *
                generalize hFz : feedC ⟨rd, bd, sd⟩ ch = G at *
                obtain ⟨⟨r2, b2, s2⟩, qs⟩ := G
                have HF2 : Hid (F2 = (⟨r2, b2, s2⟩, ps ++ qs)) := HAP.out
                have hpq : (ps ++ qs).length ≤ 72000000 := by have := hpl2; rw [HF2.out] at this; exact this
                clear HAP hFz hpl2 hok
                unfold ctV strV at cfd0
                simp only at cfd0
                obtain ⟨CH, hCHd⟩ : ∃ CH : ByteArray, CH = ⟨ch.toArray⟩ := ⟨_, rfl⟩
                rw [← hCHd] at cfd0 hCH
                obtain ⟨RS, hRSd⟩ : ∃ RS : ByteArray, RS = ⟨ra2.toArray⟩ := ⟨_, rfl⟩
                have HRS : Hid (RS = ⟨ra2.toArray⟩) := hRSd
                rw [← hRSd] at hRS
                clear hCHd hRSd
                obtain ⟨y0, y1, y2, yf, hgl⟩ := hI.cells
                unfold strV at y0
                go_upto_region 30 with fail
                go_cut [19, 20, 21] (fun d9 l10 y21 wc => ∃ (g2 : Nat) (o2 : Option Addr) (cp2 : Nat), d9 = .pointer (some ⟨g2, 0, none⟩) ∧ l10 = .slice o2 qs.length cp2 ∧ y21 = .int .i64 0 ∧ Hid (RG wr wc g2 ⟨r2, b2, s2⟩ o2 cp2 qs))
                case first =>
                  have hbA : Below wr.heap.size wr wr := Below.refl _ _
                  have HSK : Hid (∀ W : World, Below wr.heap.size wr W → W.cell? ⟨g, 0, none⟩ = some (.string ⟨rd.toArray⟩) ∧ W.cell? ⟨g, 1, none⟩ = some (.bool bd) ∧ W.cell? ⟨g, 2, none⟩ = some (.int .i64 sd)) := fun W hb => by
                    obtain ⟨a, b, c, _⟩ := (hI.below hb).cells
                    exact ⟨a, b, c⟩
                  clear hI y0 y1 y2 yf HI
                  go_region_held3 (fun w' => w'.cell? ⟨g, 0, none⟩ = some (.string ⟨rd.toArray⟩) ∧ w'.cell? ⟨g, 1, none⟩ = some (.bool bd) ∧ w'.cell? ⟨g, 2, none⟩ = some (.int .i64 sd))
                    (first
                      | (refine HSK.out _ ?_
                         repeat' (first | with_reducible exact hbA | with_reducible apply below_drew | with_reducible apply below_new | with_reducible refine bset ?_ (by have := hbA.size; first | omega | (simp; omega))))
                      | go_keep)
                    (first
                      | (go_at_call 8
                         refine (cfd0 _).mono ?_
                         rintro e w3 ⟨V3, rfl, ⟨hp3, hn3⟩, hb3⟩
                         obtain ⟨o3, cp3, rfl, hq3, hq4⟩ := HasRow.slice hp3
                         have hbN : Below wr.heap.size wr w3 := below2 (by repeat' (first | with_reducible exact hbA | with_reducible apply below_drew | with_reducible apply below_new)) hb3
                         clear hbA
                         have hbA := hbN
                         clear hbN
                         (first | (have hE : RowAt w3 wr.heap.size [.string ⟨#[]⟩, .bool false, .int .i64 0] 41 := (by with_reducible first | exact rk1 hb3 | exact rk2 hb3 | exact rk3 hb3); obtain ⟨f0, f1, f2, ff⟩ := cells3 hE; have hfl := hE.lt) | skip)))
                  all_goals go_wp2_with fail
                  all_goals go_meet
                  all_goals first
                    | (refine ⟨_, _, _, rfl, rfl, rfl, ?_⟩; show RG _ _ _ _ _ _ _; with_reducible exact rg_new (d := ⟨r2, b2, s2⟩) hbA hp3 hn3 (by simp))
                    | (refine ⟨_, _, _, rfl, rfl, rfl, ?_⟩; show RG _ _ _ _ _ _ _; with_reducible exact rg_at (d := ⟨r2, b2, s2⟩) hbA hE (Nat.le_refl _) hp3 hn3 (by simp))
                case rest =>
                obtain ⟨g2, o2, cp2, rfl, rfl, rfl, HG⟩ := hcut
                have hG := HG.out
                have hI3 := (hI.below hG.bl).below (below_drew (Below.refl _ _))
                have hp3 := hG.pc.keep (below_drew (Below.refl _ _))
                have rz := hG.dd
                have rz3 := rz.below (below_drew (Below.refl _ _))
                obtain ⟨z0, z1, z2, zf⟩ := cells3 rz
                have hgg : g2 ≠ g := by have := hG.lt; have := hI.sz; omega
                unfold strV at rz rz3 z0
                clear hI y0 y1 y2 yf hgl HI cfd0 hCH HG hG
                have hgg2 : g ≠ g2 := fun e => hgg e.symm
                obtain ⟨o6, cp6, w5, hrun, hI5, rz5⟩ := hI3.app hp3 rz3 (by rw [← List.length_append]; omega)
                have hI6 := hI5.store ⟨r2, b2, s2⟩
                have HI6 : Hid (At w _ g ⟨r2, b2, s2⟩ (.slice o6 (ps ++ qs).length cp6) (ps ++ qs)) := hI6
                obtain ⟨q0, q1, q2, qf⟩ := cells3 rz5
                obtain ⟨y0, y1, y2, yf, hgl⟩ := hI5.cells
                unfold strV at HI6 y0
                simp only at HI6
                clear hI3 hp3 rz3 rz5 hI5 hI6 rz
                go_wp2_with fail
                go_region_held (fun w' => w'.cell? ⟨g2, 0, none⟩ = some (.string ⟨r2.toArray⟩) ∧ w'.cell? ⟨g2, 1, none⟩ = some (.bool b2) ∧ w'.cell? ⟨g2, 2, none⟩ = some (.int .i64 s2)) (go_keep) (fail)
                go_wp2_with fail
                go_roundw
                case rel => exact ⟨ca2, ra2, k + 1, o6, cp6, HW2, by omega, by go_num, by rw [HRS.out], by rw [HFF.out, HF2.out]; simp, HED.out, by rw [HFF.out, HF2.out]; exact HI6.out⟩
                case measure =>
                  show RS.size + (ms - (intOf (.int .i64 ((k : Int) + 1))).toNat) < S.size + (ms - (intOf (.int .i64 (k : Int))).toNat)
                  have h1 := HLN.out
                  have h2 : RS.size = ra2.length := by rw [HRS.out]; exact size_list ra2
                  have h3 := HSz.out
                  have h4 : (intOf (.int .i64 ((k : Int) + 1))).toNat = k + 1 := by first | (simp [intOf]; done) | (simp [intOf]; omega)
                  have h5 : (intOf (.int .i64 (k : Int))).toNat = k := by first | (simp [intOf]; done) | (simp [intOf]; omega)
                  rw [h4, h5]
                  omega

              · have hki : decide ((k : Int) < (ms : Int)) = false := decide_eq_false (by omega)
                have hQ : S.size ≤ ra.length := by have := HSz.out; omega
                have hCH : S.extract 0 S.size = ⟨(ra.take S.size).toArray⟩ := by rw [HS.out]; exact Msg.take_pre ra _ (by first | exact hQ | (rw [← HS.out]; exact hQ))
                have hRS : S.extract S.size S.size = ⟨(ra.drop S.size).toArray⟩ := by rw [HSz.out, HS.out]; exact Msg.drop_suf ra _ (Nat.le_refl _)
                have HW2 : Hid ((ca ++ ra.take S.size) ++ ra.drop S.size = wh) := by show _ = _; rw [List.append_assoc, List.take_append_drop]; exact HC.out
                have HAP : Hid (feedC zeroC (ca ++ ra.take S.size) = ((feedC (feedC zeroC ca).1 (ra.take S.size)).1, (feedC zeroC ca).2 ++ (feedC (feedC zeroC ca).1 (ra.take S.size)).2)) := feed_app ca (ra.take S.size) zeroC
                have hok : okC (feedC zeroC ca).1 = true := feed_ok ca (by decide)
                have hpl2 : (feedC zeroC (ca ++ ra.take S.size)).2.length ≤ 72000000 := by
                  have h1 := feed_len (ca ++ ra.take S.size) zeroC
                  have h2 := congrArg List.length HW2.out
                  rw [List.length_append] at h2
                  have h3 := HWL.out
                  omega
                have cfd0 := fun W : World => HFD.out (feedC zeroC ca).1 hok W (ra.take S.size) (by have := HWL.out; have h2 := congrArg List.length HC.out; rw [List.length_append] at h2; rw [List.length_take]; omega)
                have HED : Hid (ms < k + 1 → ra.drop S.size = []) := fun _ => List.drop_of_length_le (by rw [HSz.out]; exact Nat.le_refl _)
                have HLN : Hid ((ra.drop S.size).length + (ms - (k + 1)) < ra.length + (ms - k)) := by show _ < _; rw [List.length_drop]; have := HSz.out; omega
                generalize hCA2 : ca ++ ra.take S.size = ca2 at HAP HW2 hpl2
                have HCA : Hid (ca ++ ra.take S.size = ca2) := hCA2
                generalize hRA2 : ra.drop S.size = ra2 at *
                have HRA : Hid (ra.drop S.size = ra2) := hRA2
                generalize ra.take S.size = ch at *
                have HR0 : Hid (ra2 = []) := by show _ = _; rw [← hRA2]; exact List.drop_of_length_le (by rw [HSz.out]; exact Nat.le_refl _)
                clear hCA2 hRA2
                generalize feedC zeroC ca = F at *
                obtain ⟨⟨rd, bd, sd⟩, ps⟩ := F
                generalize hF2 : feedC zeroC ca2 = F2 at *
                have HFF : Hid (feedC zeroC ca2 = F2) := hF2
                clear hF2
                simp only at *
                generalize hFz : feedC ⟨rd, bd, sd⟩ ch = G at *
                obtain ⟨⟨r2, b2, s2⟩, qs⟩ := G
                have HF2 : Hid (F2 = (⟨r2, b2, s2⟩, ps ++ qs)) := HAP.out
                have hpq : (ps ++ qs).length ≤ 72000000 := by have := hpl2; rw [HF2.out] at this; exact this
                clear HAP hFz hpl2 hok
                unfold ctV strV at cfd0
                simp only at cfd0
                obtain ⟨CH, hCHd⟩ : ∃ CH : ByteArray, CH = ⟨ch.toArray⟩ := ⟨_, rfl⟩
                rw [← hCHd] at cfd0 hCH
                obtain ⟨RS, hRSd⟩ : ∃ RS : ByteArray, RS = ⟨ra2.toArray⟩ := ⟨_, rfl⟩
                have HRS : Hid (RS = ⟨ra2.toArray⟩) := hRSd
                rw [← hRSd] at hRS
                clear hCHd hRSd
                obtain ⟨y0, y1, y2, yf, hgl⟩ := hI.cells
                unfold strV at y0
                go_upto_region 30 with fail
                go_cut [19, 20, 21] (fun d9 l10 y21 wc => ∃ (g2 : Nat) (o2 : Option Addr) (cp2 : Nat), d9 = .pointer (some ⟨g2, 0, none⟩) ∧ l10 = .slice o2 qs.length cp2 ∧ y21 = .int .i64 0 ∧ Hid (RG wr wc g2 ⟨r2, b2, s2⟩ o2 cp2 qs))
                case first =>
                  have hbA : Below wr.heap.size wr wr := Below.refl _ _
                  have HSK : Hid (∀ W : World, Below wr.heap.size wr W → W.cell? ⟨g, 0, none⟩ = some (.string ⟨rd.toArray⟩) ∧ W.cell? ⟨g, 1, none⟩ = some (.bool bd) ∧ W.cell? ⟨g, 2, none⟩ = some (.int .i64 sd)) := fun W hb => by
                    obtain ⟨a, b, c, _⟩ := (hI.below hb).cells
                    exact ⟨a, b, c⟩
                  clear hI y0 y1 y2 yf HI
                  go_region_held3 (fun w' => w'.cell? ⟨g, 0, none⟩ = some (.string ⟨rd.toArray⟩) ∧ w'.cell? ⟨g, 1, none⟩ = some (.bool bd) ∧ w'.cell? ⟨g, 2, none⟩ = some (.int .i64 sd))
                    (first
                      | (refine HSK.out _ ?_
                         repeat' (first | with_reducible exact hbA | with_reducible apply below_drew | with_reducible apply below_new | with_reducible refine bset ?_ (by have := hbA.size; first | omega | (simp; omega))))
                      | go_keep)
                    (first
                      | (go_at_call 8
                         refine (cfd0 _).mono ?_
                         rintro e w3 ⟨V3, rfl, ⟨hp3, hn3⟩, hb3⟩
                         obtain ⟨o3, cp3, rfl, hq3, hq4⟩ := HasRow.slice hp3
                         have hbN : Below wr.heap.size wr w3 := below2 (by repeat' (first | with_reducible exact hbA | with_reducible apply below_drew | with_reducible apply below_new)) hb3
                         clear hbA
                         have hbA := hbN
                         clear hbN
                         (first | (have hE : RowAt w3 wr.heap.size [.string ⟨#[]⟩, .bool false, .int .i64 0] 41 := (by with_reducible first | exact rk1 hb3 | exact rk2 hb3 | exact rk3 hb3); obtain ⟨f0, f1, f2, ff⟩ := cells3 hE; have hfl := hE.lt) | skip)))
                  all_goals go_wp2_with fail
                  all_goals go_meet
                  all_goals first
                    | (refine ⟨_, _, _, rfl, rfl, rfl, ?_⟩; show RG _ _ _ _ _ _ _; with_reducible exact rg_new (d := ⟨r2, b2, s2⟩) hbA hp3 hn3 (by simp))
                    | (refine ⟨_, _, _, rfl, rfl, rfl, ?_⟩; show RG _ _ _ _ _ _ _; with_reducible exact rg_at (d := ⟨r2, b2, s2⟩) hbA hE (Nat.le_refl _) hp3 hn3 (by simp))
                case rest =>
                obtain ⟨g2, o2, cp2, rfl, rfl, rfl, HG⟩ := hcut
                have hG := HG.out
                have hI3 := (hI.below hG.bl).below (below_drew (Below.refl _ _))
                have hp3 := hG.pc.keep (below_drew (Below.refl _ _))
                have rz := hG.dd
                have rz3 := rz.below (below_drew (Below.refl _ _))
                obtain ⟨z0, z1, z2, zf⟩ := cells3 rz
                have hgg : g2 ≠ g := by have := hG.lt; have := hI.sz; omega
                unfold strV at rz rz3 z0
                clear hI y0 y1 y2 yf hgl HI cfd0 hCH HG hG
                have hgg2 : g ≠ g2 := fun e => hgg e.symm
                obtain ⟨o6, cp6, w5, hrun, hI5, rz5⟩ := hI3.app hp3 rz3 (by rw [← List.length_append]; omega)
                have hI6 := hI5.store ⟨r2, b2, s2⟩
                have HI6 : Hid (At w _ g ⟨r2, b2, s2⟩ (.slice o6 (ps ++ qs).length cp6) (ps ++ qs)) := hI6
                obtain ⟨q0, q1, q2, qf⟩ := cells3 rz5
                obtain ⟨y0, y1, y2, yf, hgl⟩ := hI5.cells
                unfold strV at HI6 y0
                simp only at HI6
                clear hI3 hp3 rz3 rz5 hI5 hI6 rz
                go_wp2_with fail
                go_region_held (fun w' => w'.cell? ⟨g2, 0, none⟩ = some (.string ⟨r2.toArray⟩) ∧ w'.cell? ⟨g2, 1, none⟩ = some (.bool b2) ∧ w'.cell? ⟨g2, 2, none⟩ = some (.int .i64 s2)) (go_keep) (fail)
                go_wp2_with fail
                go_roundw
                case rel => exact ⟨ca2, ra2, k + 1, o6, cp6, HW2, by omega, by go_num, by rw [HR0.out]; rfl, by rw [HFF.out, HF2.out]; simp, HED.out, by rw [HFF.out, HF2.out]; exact HI6.out⟩
                case measure =>
                  show ByteArray.empty.size + (ms - (intOf (.int .i64 ((k : Int) + 1))).toNat) < S.size + (ms - (intOf (.int .i64 (k : Int))).toNat)
                  have h1 := HLN.out
                  have h2 : ByteArray.empty.size = ra2.length := by rw [HR0.out]; rfl
                  have h3 := HSz.out
                  have h4 : (intOf (.int .i64 ((k : Int) + 1))).toNat = k + 1 := by first | (simp [intOf]; done) | (simp [intOf]; omega)
                  have h5 : (intOf (.int .i64 (k : Int))).toNat = k := by first | (simp [intOf]; done) | (simp [intOf]; omega)
                  rw [h4, h5]
                  omega

theorem walk (N : ByteArray) (v : Value) (es : List Ev) (os : Option Addr) (ms cs : Nat) (zs : List Int) (w : World) (b0 : N.size ≤ 1048576) (b1 : HasEvs w v es) (f1 : ∀ e ∈ es, FitE e) (m1 : es.length ≤ 1048576) (b2 : IsRow .u8 w os ms cs zs) (n2 : ms ≤ 1048576) :
    Calls Try.prog 3 #[.string N, v, .slice os ms cs] w fun e w' => e = .returned (.bool true) ∧ Below w.heap.size w w' := by
  obtain ⟨o, c, rfl, _, _⟩ := Ord.HasRow.slice b1
  obtain ⟨nl, hnl⟩ : ∃ nl : List UInt8, nl = N.data.toList := ⟨_, rfl⟩
  have hM : N = ⟨nl.toArray⟩ := by rw [hnl]
  have hsz : nl.length = N.size := by rw [hnl, Array.length_toList]; rfl
  rw [hM]
  refine walk_in o c es.length es nl os ms cs w rfl (by omega) (by show _ ≤ _; omega) (by omega) (fun W hb => b1.keep hb) f1 (fun W hb i hi => ?_) (fun W => Frame.begins_any W)
  obtain ⟨b, j0, z, e1, e2, e3, e4⟩ := sz_at b2 i hi
  exact ⟨b, j0, z, e1, Nat.lt_of_lt_of_le e2 hb.size, (hb.cell (p := ⟨b, j0 + i, none⟩) e2).trans e3, e4⟩

set_option maxRecDepth 100000 in
theorem contract (H : Type) (enc : TypeId × Value → H) (W : World) (base : Nat) (args : Array Value) (ds gs : List (DataW H)) (before : List MemPlace)
    (hval0 : ∀ (j : Nat) t v, Try.f3.params[j]? = some t → args[j]? = some v → Value.okWide Try.prog W .any base t v)
    (hW : DataW.Whole enc Try.prog Try.f3.params.toList Rows.topStreamSpec.vars false W args.toList ds gs before) (hk : Rows.uptoSmall H (ds ++ gs) = true)
    (hsz0 : (DataW.weightsEach Try.prog (Try.f3.params.toList ++ Rows.topStreamSpec.plain.varTypes Try.prog) (ds ++ gs)).all (· ≤ reachBytes) = true) :
    Calls Try.prog 3 args W fun e W' => ∃ v, e = .returned v ∧ Rows.topStreamSpec.post enc Try.prog Try.f3 false true false false W args v W' := by
  have hsz : (DataW.weightsEach Try.prog (Try.f3.params.toList ++ Rows.topStreamSpec.plain.varTypes Try.prog) (ds ++ gs)).all (· ≤ reachBytes) = true := hsz0
  clear hsz0
  have hval : ∀ (j : Nat) t v, Try.f3.params[j]? = some t → args[j]? = some v → Value.okWide Try.prog W .any base t v := hval0
  have hW' := hW
  obtain ⟨p, q, hA0, hV, rfl, hfz, hnd⟩ := hW
  have hA : DataW.TrodAll enc Try.prog W 0 (fun _ => true) true Try.f3.params.toList args.toList ds p := hA0
  rw [Try.params3] at hA hval hsz
  obtain ⟨v0, vs0, d0, ds0, p0, q0, hargs, rfl, rfl, h0, r0⟩ := trodAll_cons hA
  obtain ⟨v1, vs1, d1, ds1, p1, q1, rfl, rfl, rfl, h1, r1⟩ := trodAll_cons r0
  obtain ⟨v2, vs2, d2, ds2, p2, q2, rfl, rfl, rfl, h2, r2⟩ := trodAll_cons r1
  obtain ⟨rfl, rfl, rfl⟩ := trodAll_nil r2
  obtain rfl : args = #[v0, v1, v2] := by cases args; simp_all
  obtain ⟨rfl, rfl⟩ := trodVars_none hV
  obtain ⟨a0, rfl, rfl, rfl, w0⟩ := open_string Try.underlying9 (hval 0 9 v0 rfl rfl) h0
  have b0 : a0.size ≤ 1048576 := bulk_str hk (j := 0) rfl
  obtain ⟨a1, len1, cap1, rfl⟩ := okWide_slice Try.underlying22 (hval 1 22 v1 rfl rfl)
  have k1 := h1
  have lt1 : ∀ x ∈ p1, x.block < W.heap.size := by obtain ⟨m, hm⟩ := k1; exact DataW.trod_lt m _ _ _ hm
  have n1 : len1 ≤ 1048576 := by
    obtain ⟨fuel, hf⟩ := k1
    rcases Go.Deep.open_slice Try.underlying22 hf with ⟨hcs, _⟩ | ⟨x, l, c, m, n, D, Pl, hcs, _, _, _, _, hx, _⟩
    · simp [Value.cells] at hcs
      omega
    · simp [Value.cells] at hcs
      obtain ⟨rfl, rfl, rfl⟩ := hcs
      have := bulk_row hk (j := 1) (congrArg some (Prod.mk.inj hx).1)
      simpa using this
  obtain ⟨fuel1, hf1⟩ := h1
  obtain ⟨z1, b1, f1⟩ := Ord.open_events hf1
  have m1 : z1.length ≤ 1048576 := by
    obtain ⟨_, _, e, _⟩ := Ord.HasRow.slice b1
    injection e with _ e _
    omega
  obtain ⟨a2, len2, cap2, rfl⟩ := okWide_slice Try.underlying23 (hval 2 23 v2 rfl rfl)
  have k2 := h2
  have lt2 : ∀ x ∈ p2, x.block < W.heap.size := by obtain ⟨m, hm⟩ := k2; exact DataW.trod_lt m _ _ _ hm
  have n2 : len2 ≤ 1048576 := by
    obtain ⟨fuel, hf⟩ := k2
    rcases Go.Deep.open_slice Try.underlying23 hf with ⟨hcs, _⟩ | ⟨x, l, c, m, n, D, Pl, hcs, _, _, _, _, hx, _⟩
    · simp [Value.cells] at hcs
      omega
    · simp [Value.cells] at hcs
      obtain ⟨rfl, rfl, rfl⟩ := hcs
      have := bulk_row hk (j := 2) (congrArg some (Prod.mk.inj hx).1)
      simpa using this
  obtain ⟨z2, b2⟩ : ∃ zs, IsRow .u8 W a2 len2 cap2 zs := by
    obtain ⟨fuel, hf⟩ := h2
    rcases open_ints Try.underlying23 Try.underlying5 (by kernel_rfl) hf with ⟨hcs, _⟩ | ⟨x, l, c, zs, hcs, _, hl, hm, hz, _, hcell, hwz⟩
    · simp [Value.cells] at hcs
      obtain ⟨rfl, rfl, rfl⟩ := hcs
      exact ⟨[], .inl ⟨rfl, rfl, rfl, rfl⟩⟩
    · simp [Value.cells] at hcs
      obtain ⟨rfl, rfl, rfl⟩ := hcs
      exact ⟨zs, .inr ⟨_, rfl, hl, hm, by simpa using hz, hcell, hwz⟩⟩
  clear hA0 hval0
  refine (walk a0 (.slice a1 len1 cap1) z1 a2 len2 cap2 z2 W b0 b1 f1 m1 b2 n2).mono fun e W' ⟨he, bel⟩ => ?_
  subst he
  exact ⟨_, rfl, _, _, _, [], _, [], hW', trodAll_mk1 (shut_bool Try.underlying4 _), (trodAll_cons_mk (shut_string Try.underlying9 w0) (trodAll_cons_mk (Below.trod laidOut (by kernel_rfl) (of_decide_eq_true (by kernel_rfl)) k1 bel lt1) (trodAll_cons_mk (Below.trod laidOut (by kernel_rfl) (of_decide_eq_true (by kernel_rfl)) k2 bel lt2) trodAll_mk0))), rfl, bel.frame _, fun h => by cases h⟩
set_option maxRecDepth 100000 in
theorem lifted (os : Os) (started : os.Started) (H : Type) (enc : TypeId × Value → H) (F : Stop.Interp) :
    ReturnsInHanded {} Try.checked os 3 .any ((Rows.OpenSpec.upto Rows.topStreamSpec).pre6 enc Try.prog Try.f3 Rows.topStreamUptoRow.domain false) (((Rows.OpenSpec.upto Rows.topStreamSpec).at F).post enc Try.prog Try.f3 false true false false) := by
  refine returnsInHanded_of_cond_sized (C := Try.checked) (s := Rows.OpenSpec.upto Rows.topStreamSpec) (k := Rows.uptoSmall) rfl own started (by kernel_rfl) Try.func3
    (OpenSpec.witness (enc := enc) (C := Try.checked) (s := Rows.OpenSpec.upto Rows.topStreamSpec) (k := Rows.uptoSmall) rfl false ⟨#[], #[.string ByteArray.empty, .slice none 0 0, .slice none 0 0], []⟩ 8 (by kernel_rfl) (by kernel_rfl) (by kernel_rfl)
      (x := ([.lit (.string []), .nil, .nil], [], [])) (by kernel_rfl) rfl (by kernel_rfl)) ?_
  intro W base args ds gs before hval hW _ hk hsz _
  exact contract H enc W base args ds gs before hval hW hk hsz

theorem over : Rows.topStreamUptoRow.holds Try.pinned (Rows.OpenSpec.upto Rows.topStreamSpec) :=
  OpenClaim.holds_of_cond 3 Try.f3 rfl rfl rfl rfl rfl rfl rfl ⟨rfl, rfl, rfl, rfl, rfl⟩ rfl rfl rfl rfl rfl (by kernel_rfl) Try.func3 (by kernel_rfl)
    (of_decide_eq_true (by kernel_rfl)) (by unfold Func.isWrapper; first | (rw [if_pos (by decide +kernel)]; kernel_rfl) | (rw [if_neg (by decide +kernel)]; exact ⟨rfl, rfl⟩))
    (fun os started H enc _ F => lifted os started H enc F)
end topStream
theorem tstream_holds : Rows.TopStreamUptoSaid := topStream.over
#print axioms tstream_holds
end Go.Proofs.Ytemefcojmidmbaa
