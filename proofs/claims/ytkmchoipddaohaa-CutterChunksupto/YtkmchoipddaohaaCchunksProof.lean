/- For every cutter and row of chunks, which together hold at most 1,048,576 values and letters (the second form's bound): spoorlaw12.CutterChunks returns true, and changes nothing that was there. -/
import Derived.Test.YtkmchoipddaohaaUptoKit
import Derived.Test.YtkmchoipddaohaaCutSame
import Derived.Test.YtkmchoipddaohaaCutOpen
import Derived.ShutString
import Derived.JoinedCond
import Derived.Deep.CondSized
import Derived.Deep.Strs
set_option linter.unusedVariables false
namespace Go.Proofs.Ytkmchoipddaohaa
namespace cutterChunks
open Go.ChangeShapes Go.WideShapes Go.ChangeAt Go.RowKit Go.Shelf
open Go.ChangeMaps (open_string shut_string)
open Go.Proofs.Ytkmchoipddaohaa.Cut
attribute [-go_sem] Builtin.append_

theorem own : ownKnob Try.prog.godebug = none := by kernel_rfl
theorem laidOut : laidOutB Try.prog = true := by kernel_rfl
def catK (zs : List (List UInt8)) (k : Nat) : List UInt8 := (zs.take k).flatten
theorem catK_succ (zs : List (List UInt8)) (k : Nat) (h : k < zs.length) : catK zs (k + 1) = catK zs k ++ zs[k] := by
  unfold catK
  rw [List.take_succ_eq_append_getElem h, List.flatten_append]
  simp only [List.flatten_cons, List.flatten_nil, List.append_nil]
theorem catK_len (zs : List (List UInt8)) (hz : ∀ z ∈ zs, z.length ≤ 1048576) : ∀ k, k ≤ zs.length → (catK zs k).length ≤ 1048576 * k := by
  intro k
  induction k with
  | zero => intro _; simp [catK]
  | succ k ih =>
    intro hk
    have h1 := ih (by omega)
    have h2 := hz zs[k] (List.getElem_mem (by omega))
    rw [catK_succ zs k (by omega), List.length_append]
    omega
/-- the boxes of the law: c's, d's, the row of pieces -/
structure At (w W : World) (g : Nat) (c d : Ct) (v : Value) (ps : List PcT) : Prop where
  cc : RowAt W w.heap.size [strV c.rest, .bool c.bad, .int .i64 c.skip] 23
  dd : RowAt W g [strV d.rest, .bool d.bad, .int .i64 d.skip] 23
  ow : W.ownsRow (g + 1) 38 2 v ps.length (pcCs ps)
  bl : Below w.heap.size w W
  sz : g + 1 ≤ W.heap.size
  lt : w.heap.size < g
theorem At.below {w W W' : World} {g : Nat} {c d : Ct} {v : Value} {ps : List PcT} (h : At w W g c d v ps) (hb : Below W.heap.size W W') : At w W' g c d v ps :=
  ⟨h.cc.below hb, h.dd.below hb, own_below h.ow hb, below2 h.bl hb, Nat.le_trans h.sz hb.size, h.lt⟩
theorem At.store {w W : World} {g : Nat} {c d : Ct} {v : Value} {ps : List PcT} (h : At w W g c d v ps) (e : Ct) :
    At w (((W.setCell ⟨g, 0, none⟩ (strV e.rest)).setCell ⟨g, 1, none⟩ (.bool e.bad)).setCell ⟨g, 2, none⟩ (.int .i64 e.skip)) g c e v ps := by
  have hne : some w.heap.size ≠ some g := by intro e; injection e with e; have := h.lt; omega
  have hlt := h.lt
  refine ⟨rowAt_kept (rowAt_kept (rowAt_kept h.cc (grown_set _ _ _ _) hne) (grown_set _ _ _ _) hne) (grown_set _ _ _ _) hne, ((h.dd.set1 0 _).set1 1 _).set1 2 _, own_set (own_set (own_set h.ow (by omega)) (by omega)) (by omega), bset (bset (bset h.bl (by omega)) (by omega)) (by omega), by rw [size_set, size_set, size_set]; exact h.sz, h.lt⟩
theorem At.app {w W : World} {g : Nat} {c d : Ct} {v u : Value} {ps qs : List PcT} (h : At w W g c d v ps) (hu : HasPcs W u qs) (hb : (ps.length + qs.length) * 24 ≤ 140737488355328) :
    ∃ o cap w3, (∀ ty, (Builtin.append_ #[24, 24] ty #[v, u]).run Try.prog W = .ok (.slice o (ps ++ qs).length cap) w3) ∧ At w w3 g c d (.slice o (ps ++ qs).length cap) (ps ++ qs) := by
  obtain ⟨v', w3, hrun, ho, hg⟩ := append_pcs h.ow hu hb h.sz
  have hlt := h.lt
  rw [← List.length_append, ← pcCs_app] at ho
  obtain ⟨o, cap, rfl, _, _⟩ := HasRow.slice (hasRow_own ho)
  refine ⟨o, cap, w3, hrun, rowAt_kept h.cc hg (own_ne h.ow (by omega)), rowAt_kept h.dd hg (own_ne h.ow (by omega)), ho, ?_, Nat.le_trans h.sz hg.size, h.lt⟩
  exact h.bl.grown hg (by have := h.bl.size; omega) (fun k e => by have := own_at h.ow k e; omega)
theorem At.cells {w W : World} {g : Nat} {c d : Ct} {v : Value} {ps : List PcT} (h : At w W g c d v ps) : (W.cell? ⟨w.heap.size, 0, none⟩ = some (strV c.rest) ∧ W.cell? ⟨w.heap.size, 1, none⟩ = some (.bool c.bad) ∧ W.cell? ⟨w.heap.size, 2, none⟩ = some (.int .i64 c.skip)) ∧ W.cell? ⟨g, 0, none⟩ = some (strV d.rest) ∧ W.cell? ⟨g, 1, none⟩ = some (.bool d.bad) ∧ W.cell? ⟨g, 2, none⟩ = some (.int .i64 d.skip) ∧ (∀ k, W.frozen? ⟨g, k, none⟩ = false) ∧ g < W.heap.size := by
  obtain ⟨a, b, e, _⟩ := cells3 h.cc
  obtain ⟨a2, b2, e2, f2⟩ := cells3 h.dd
  exact ⟨⟨a, b, e⟩, a2, b2, e2, f2, h.dd.lt⟩
theorem feed_bad (c : Ct) (hb : okC c = false) (hf : FitC c) (W : World) (l : List UInt8) (hl : l.length ≤ 1099511627776) : Calls Try.prog 7 #[.agg #[.string ⟨c.rest.toArray⟩, .bool c.bad, .int .i64 c.skip], .string ⟨l.toArray⟩] W fun e w' => ∃ V, e = .returned (.tuple #[.agg #[.string ⟨#[]⟩, .bool false, .int .i64 0], V, .int .i64 2]) ∧ HasPcs w' V [] ∧ Below W.heap.size W w' := by
  have h := feed_any c l W hf hl
  rw [(fed_bad hb l).1, (fed_bad hb l).2] at h
  exact h
set_option maxHeartbeats 8000000 in
theorem walk0 (c : Ct) (a : Option Addr) (cap : Nat) (zs : List (List UInt8)) (w : World) (hf : FitC c) (hh : HasStrs w (.slice a zs.length cap) zs) (hc1 : zs.length ≤ cap) (hc2 : cap ≤ 9223372036854775807) (hn : zs.length ≤ 1048576) (hz : ∀ z ∈ zs, z.length ≤ 1048576) :
    Calls Try.prog 4 #[ctV c, .slice a zs.length cap] w fun e w' => e = .returned (.bool true) ∧ Below w.heap.size w w' := by
  have cl := lives_any
  have HFIT : Hid (FitC c) := hf
  have HH : Hid (∀ wr, Below w.heap.size w wr → HasStrs wr (.slice a zs.length cap) zs) := fun wr hb => hh.keep hb
  have ck := fun W => check_any c W hf
  have heq := ct_eql
  have hgd := ct_guard
  obtain ⟨n, hnd⟩ : ∃ n, n = zs.length := ⟨_, rfl⟩
  have HN : Hid (n = zs.length) := hnd
  rw [← hnd] at HH hc1 hn ⊢
  have hni : (n : Int) ≤ 1048576 := by omega
  have HL : Hid (∀ k, k ≤ n → (catK zs k).length ≤ 1048576 * k) := fun k hk => catK_len zs hz k (by omega)
  have HFA : Hid (∀ W l, l.length ≤ 1099511627776 → Calls Try.prog 7 #[.agg #[.string ⟨c.rest.toArray⟩, .bool c.bad, .int .i64 c.skip], .string ⟨l.toArray⟩] W fun e w' => ∃ V, e = .returned (.tuple #[ctV (fedC c l).1, V, .int .i64 (checkC c)]) ∧ HasPcs w' V (fedC c l).2 ∧ Below W.heap.size W w') := fun W l hl => feed_any c l W hf hl
  have hck : checkC c = 0 ∨ checkC c = 2 := by unfold checkC; split <;> simp
  have HOK : Hid (checkC c = 0 → okC c = true) := fun h => by unfold checkC at h; cases ho : okC c; rw [ho] at h; simp at h; rfl
  have HBAD : Hid (checkC c = 2 → okC c = false) := fun h => by unfold checkC at h; cases ho : okC c; rfl; rw [ho] at h; simp at h
  have hctv : ctV c = .agg #[.string ⟨c.rest.toArray⟩, .bool c.bad, .int .i64 c.skip] := rfl
  rw [hctv] at ck ⊢
  clear hctv
  obtain ⟨X, hX⟩ : ∃ X, X = w.alloc (.cells #[.string ⟨c.rest.toArray⟩, .bool c.bad, .int .i64 c.skip] 23) := ⟨_, rfl⟩
  have hB : Below w.heap.size w X := by rw [hX]; exact below_new (Below.refl _ _) _
  have r0 : RowAt X w.heap.size [.string ⟨c.rest.toArray⟩, .bool c.bad, .int .i64 c.skip] 23 := by rw [hX]; exact RowAt.new _ _ _
  clear hh hnd hf
  go_enter Try.func4, Try.ntmps4
  go_upto_region 1 with fail
  rw [← hX]
  clear hX
  go_wp2_with fail
  go_at_call 11; refine (cl _).mono ?_; rintro e w1 ⟨rfl, hb1⟩
  replace hB := below2 hB hb1
  replace r0 := r0.below hb1
  clear hb1 cl
  obtain ⟨x0, x1, x2, xf⟩ := cells3 r0
  go_upto_region 5 with fail
  obtain ⟨Y, hY⟩ : ∃ Y, Y = w1.alloc (.cells #[.string ⟨c.rest.toArray⟩, .bool c.bad, .int .i64 c.skip] 23) := ⟨_, rfl⟩
  have hbx : Below w1.heap.size w1 Y := by rw [hY]; exact below_new (Below.refl _ _) _
  have hA : At w Y w1.heap.size c c (.slice none 0 0) [] := ⟨r0.below hbx, by rw [hY]; exact RowAt.new _ _ _, World.ownsRow_nil _ _ _ _, below2 hB hbx, by rw [hY]; simp, r0.lt⟩
  rw [← hY]
  clear hY hbx x0 x1 x2 xf r0 hB
  generalize w1.heap.size = g at hA ⊢
  have HA : Hid (At w Y g c c (.slice none 0 0) []) := hA
  clear hA
  go_wp2_with fail
  rcases hck with hE | hE
  · have hok := HOK.out hE
    have HSD : Hid (∀ k (hk : k < zs.length), feedC c (catK zs (k + 1)) = ((feedC (feedC c (catK zs k)).1 zs[k]).1, (feedC c (catK zs k)).2 ++ (feedC (feedC c (catK zs k)).1 zs[k]).2)) := fun k hk => by rw [catK_succ zs k hk, feed_app]
    have HCS : Hid (∀ k (hk : k < zs.length), (⟨(catK zs k).toArray⟩ : ByteArray) ++ ⟨(zs[k]).toArray⟩ = ⟨(catK zs (k + 1)).toArray⟩) := fun k hk => by rw [catK_succ zs k hk, bytes_cat]
    have HFD : Hid (∀ d, okC d = true → ∀ W l, l.length ≤ 1099511627776 → Calls Try.prog 7 #[ctV d, .string ⟨l.toArray⟩] W fun e w' => ∃ V, e = .returned (.tuple #[ctV (feedC d l).1, V, .int .i64 0]) ∧ (HasPcs w' V (feedC d l).2 ∧ NewIn W V) ∧ Below W.heap.size W w') := fun d hd W l hl => by
      have hrl := rest_le hd
      have hsk := ((okC_iff d).1 hd).2.1
      have := feedN_any d l W ⟨by omega, by omega, by omega⟩ hl
      rw [(fed_ok hd l).1, (fed_ok hd l).2] at this
      exact this
    have HCD : Hid (∀ d, okC d = true → ∀ W, Calls Try.prog 12 #[ctV d] W fun e w' => e = .returned (.int .i64 0) ∧ Below W.heap.size W w') := fun d hd W => by
      have hrl := rest_le hd
      have hsk := ((okC_iff d).1 hd).2.1
      have := check_any d W ⟨by omega, by omega, by omega⟩
      rw [(fed_ok hd []).2] at this
      exact this
    have HOKD : Hid (∀ k, okC (feedC c (catK zs k)).1 = true ∧ (feedC c (catK zs k)).2.length ≤ (catK zs k).length) := fun k => ⟨feed_ok _ hok, feed_len _ _⟩
    have H0 : Hid (feedC c (catK zs 0) = (c, []) ∧ catK zs 0 = []) := by exact ⟨by rw [show catK zs 0 = [] from rfl]; rfl, rfl⟩
    rw [hE] at ck HFA
    clear HOK HBAD hE
    go_loopw [5, 7, 21] (fun s5 s7 i wr => ∃ (k : Nat) (o : Option Addr) (cp : Nat), k ≤ n ∧ i = .int .i64 k ∧ s5 = .string ⟨(catK zs k).toArray⟩ ∧ s7 = .slice o (feedC c (catK zs k)).2.length cp ∧ Hid (At w wr g c (feedC c (catK zs k)).1 (.slice o (feedC c (catK zs k)).2.length cp) (feedC c (catK zs k)).2)) (fun _ _ i _ => n - (intOf i).toNat)
    case atStart => exact ⟨0, none, 0, Nat.zero_le _, rfl, by rw [H0.out.2], by rw [H0.out.1]; rfl, by rw [H0.out.1]; exact HA.out⟩
    case round =>
      obtain ⟨k, o, cp, hk, rfl, rfl, rfl, HI⟩ := hrel
      have hI := HI.out
      have hLk := HL.out k hk
      obtain ⟨⟨x0, x1, x2⟩, y0, y1, y2, yf, hgl⟩ := hI.cells
      have hodk := HOKD.out k
      by_cases hlt : k < n
      · have hkz : k < zs.length := by rw [← HN.out]; exact hlt
        obtain ⟨b1, i1, rfl, hb1, a1⟩ := HasStrs.cell (HH.out _ hI.bl) k hkz
        have hzk := hz zs[k] (List.getElem_mem hkz)
        have hcs := HCS.out k hkz
        have HS := HSD.out k hkz
        have HS2 : Hid (feedC c (catK zs (k + 1)) = _) := HS
        have hod2 := HOKD.out (k + 1)
        have hL2 := HL.out (k + 1) (by omega)
        clear HS HCS HSD HOKD HL
        generalize hW2 : catK zs (k + 1) = wh2 at *
        have HW2 : Hid (catK zs (k + 1) = wh2) := hW2
        clear hW2
        generalize catK zs k = wh at *
        unfold strV at *
        generalize zs[k] = z at *
        generalize hF2 : feedC c wh2 = F2 at *
        have HFF : Hid (feedC c wh2 = F2) := hF2
        clear hF2
        generalize feedC c wh = F at *
        obtain ⟨⟨rd, bd, sd⟩, ps⟩ := F
        simp only at *
        have cfd := HFD.out ⟨rd, bd, sd⟩ hodk.1 wr z (by omega)
        have hki : (k : Int) < (n : Int) := by omega
        have hzi : (z.length : Int) ≤ 1048576 := by omega
        have hwi : (wh.length : Int) ≤ 1099511627776 := by omega
        have hwz : ¬ 9223372036854775807 < wh.length + z.length := by omega
        generalize hFz : feedC ⟨rd, bd, sd⟩ z = G at *
        obtain ⟨⟨r2, b2, s2⟩, qs⟩ := G
        have HF2 : Hid (F2 = (⟨r2, b2, s2⟩, ps ++ qs)) := HS2.out
        have hokg : okC ⟨r2, b2, s2⟩ = true := by have := hod2.1; rw [HF2.out] at this; exact this
        have hpq : (ps ++ qs).length ≤ wh2.length := by have := hod2.2; rw [HF2.out] at this; exact this
        have cch := fun W => HCD.out ⟨r2, b2, s2⟩ hokg W
        clear HS2 hFz
        unfold ctV strV at cfd cch
        simp only at cfd cch
        go_wp2_with fail
        go_at_call 7; refine cfd.mono ?_; rintro e w2 ⟨V2, rfl, ⟨hp2, hnw⟩, hb2⟩
        have hI2 := hI.below hb2
        have hgne : ∀ a n c, V2 = .slice (some a) n c → a.block ≠ g := fun a n c e => by have := hnw a n c e; omega
        obtain ⟨o2, cp2, rfl, hc3, hc4⟩ := HasRow.slice hp2
        go_upto_region 11 with fail
        obtain ⟨Z, hZ⟩ : ∃ Z, Z = w2.alloc (.cells #[.string ⟨r2.toArray⟩, .bool b2, .int .i64 s2] 23) := ⟨_, rfl⟩
        have hbx : Below w2.heap.size w2 Z := by rw [hZ]; exact below_new (Below.refl _ _) _
        have rz : RowAt Z w2.heap.size [.string ⟨r2.toArray⟩, .bool b2, .int .i64 s2] 23 := by rw [hZ]; exact RowAt.new _ _ _
        rw [← hZ]
        have hI3 := hI2.below hbx
        have hp3 := hp2.keep hbx
        clear hZ hI2 hp2 hbx hb2 hI x0 x1 x2 y0 y1 y2 yf hgl HI
        generalize w2.heap.size = g2 at rz ⊢
        obtain ⟨⟨x0, x1, x2⟩, y0, y1, y2, yf, hgl⟩ := hI3.cells
        unfold strV at x0 y0
        have hwl := hI3.lt
        go_wp2_with fail
        go_at_call 12; refine (ck _).mono ?_; rintro e w3 ⟨rfl, hb3⟩
        replace hI3 := hI3.below hb3
        replace hp3 := hp3.keep hb3
        replace rz := rz.below hb3
        clear hb3 x0 x1 x2 y0 y1 y2 yf hgl
        obtain ⟨z0, z1, z2, zf⟩ := cells3 rz
        go_wp2_with fail
        go_at_call 12; refine (cch _).mono ?_; rintro e w4 ⟨rfl, hb3⟩
        replace hI3 := hI3.below hb3
        replace hp3 := hp3.keep hb3
        replace rz := rz.below hb3
        clear hb3 z0 z1 z2 zf
        obtain ⟨z0, z1, z2, zf⟩ := cells3 rz
        obtain ⟨⟨x0, x1, x2⟩, y0, y1, y2, yf, hgl⟩ := hI3.cells
        unfold strV at x0 y0
        have hI4 := hI3.store ⟨r2, b2, s2⟩
        have hp4 : HasPcs (((w4.setCell ⟨g, 0, none⟩ (strV r2)).setCell ⟨g, 1, none⟩ (.bool b2)).setCell ⟨g, 2, none⟩ (.int .i64 s2)) (.slice o2 qs.length cp2) qs := ((hp3.grown (grown_set _ _ _ _) hgne).grown (grown_set _ _ _ _) hgne).grown (grown_set _ _ _ _) hgne
        obtain ⟨o5, cp5, w5, hrun, hI5⟩ := hI4.app hp4 (by rw [← List.length_append]; omega)
        unfold strV at hrun
        clear hI4 hp4 hp3 hI3
        go_wp2_with fail
        go_roundw
        case rel => exact ⟨k + 1, o5, cp5, by omega, by go_num, by rw [HW2.out], by rw [HW2.out, HFF.out, HF2.out]; simp, by rw [HW2.out, HFF.out, HF2.out]; exact hI5⟩
        case measure => simp [intOf]; omega
      · obtain rfl : k = n := by omega
        have cfw := HFA.out wr (catK zs k) (by omega)
        rw [(fed_ok hok _).1] at cfw
        clear HFA HFD HCD HOKD HSD HCS H0 HL HH HI HN
        generalize catK zs k = wh at *
        generalize feedC c wh = F at *
        obtain ⟨⟨rd, bd, sd⟩, ps⟩ := F
        unfold ctV strV at *
        simp only at *
        have hpl : ps.length ≤ 10000000000000 := by omega
        go_wp2_with fail
        go_at_call 7; refine cfw.mono ?_; rintro e w2 ⟨V2, rfl, hp2, hb2⟩
        replace hI := hI.below hb2
        obtain ⟨o2, cp2, rfl, hc3, hc4⟩ := HasRow.slice hp2
        go_upto_region 19 with fail
        obtain ⟨Z, hZ⟩ : ∃ Z, Z = w2.alloc (.cells #[.string ⟨rd.toArray⟩, .bool bd, .int .i64 sd] 23) := ⟨_, rfl⟩
        have hbx : Below w2.heap.size w2 Z := by rw [hZ]; exact below_new (Below.refl _ _) _
        have rz : RowAt Z w2.heap.size [.string ⟨rd.toArray⟩, .bool bd, .int .i64 sd] 23 := by rw [hZ]; exact RowAt.new _ _ _
        rw [← hZ]
        replace hI := hI.below hbx
        replace hp2 := hp2.keep hbx
        clear hZ hbx hb2 x0 x1 x2 y0 y1 y2 yf hgl cfw
        generalize w2.heap.size = g2 at rz ⊢
        obtain ⟨⟨x0, x1, x2⟩, y0, y1, y2, yf, hgl⟩ := hI.cells
        unfold strV at x0 y0
        obtain ⟨z0, z1, z2, zf⟩ := cells3 rz
        have cs := same_any ps _ _ Z (hasRow_own hI.ow) hp2 hpl
        go_wp2_with fail
        go_at_call 14; refine cs.mono ?_; rintro e w3 ⟨rfl, hb3⟩
        go_wp2_with fail
        go_ret
        exact ⟨rfl, below2 hI.bl hb3⟩
  · have hbad := HBAD.out hE
    have HFB : Hid (∀ (W : World) (l : List UInt8), l.length ≤ 1099511627776 → Calls Try.prog 7 #[.agg #[.string ⟨c.rest.toArray⟩, .bool c.bad, .int .i64 c.skip], .string ⟨l.toArray⟩] W fun e w' => ∃ V, e = .returned (.tuple #[.agg #[.string ⟨#[]⟩, .bool false, .int .i64 0], V, .int .i64 2]) ∧ HasPcs w' V [] ∧ Below W.heap.size W w') := fun W l hl => feed_bad c hbad HFIT.out W l hl
    rw [hE] at ck
    clear HOK HBAD hE HFA
    go_loopw [5, 7, 21] (fun s5 s7 i wr => i = .int .i64 0 ∧ s5 = .string ⟨#[]⟩ ∧ s7 = .slice none 0 0 ∧ Hid (At w wr g c c (.slice none 0 0) [])) (fun _ _ i _ => n - (intOf i).toNat)
    case atStart => exact ⟨rfl, rfl, rfl, HA.out⟩
    case round =>
      obtain ⟨rfl, rfl, rfl, HI⟩ := hrel
      have hI := HI.out
      obtain ⟨⟨x0, x1, x2⟩, y0, y1, y2, yf, hgl⟩ := hI.cells
      unfold strV at x0 y0
      by_cases hlt : 0 < n
      · have hkz : 0 < zs.length := by rw [← HN.out]; exact hlt
        obtain ⟨b1, i1, rfl, hb1, a1⟩ := HasStrs.cell (HH.out _ hI.bl) 0 hkz
        have hzk := hz zs[0] (List.getElem_mem hkz)
        unfold strV at a1
        rw [Nat.add_zero] at a1
        generalize zs[0] = z at *
        have cfd := HFB.out wr z (by omega)
        have hki : (0 : Int) < (n : Int) := by omega
        have hzi : (z.length : Int) ≤ 1048576 := by omega
        clear HFB HL HH
        go_wp2_with fail
        go_at_call 7; refine cfd.mono ?_; rintro e w2 ⟨V2, rfl, hp2, hb2⟩
        replace hI := hI.below hb2
        obtain ⟨o2, cp2, rfl, hc3, hc4⟩ := HasRow.slice hp2
        go_upto_region 11 with fail
        obtain ⟨Z, hZ⟩ : ∃ Z, Z = w2.alloc (.cells #[.string ⟨#[]⟩, .bool false, .int .i64 0] 23) := ⟨_, rfl⟩
        have hbx : Below w2.heap.size w2 Z := by rw [hZ]; exact below_new (Below.refl _ _) _
        rw [← hZ]
        replace hI := hI.below hbx
        clear hZ hbx hb2 x0 x1 x2 y0 y1 y2 yf hgl cfd hp2 HI
        obtain ⟨⟨x0, x1, x2⟩, y0, y1, y2, yf, hgl⟩ := hI.cells
        unfold strV at x0 y0
        go_wp2_with fail
        go_at_call 12; refine (ck _).mono ?_; rintro e w3 ⟨rfl, hb3⟩
        replace hI := hI.below hb3
        go_wp2_with fail
        go_ret
        exact ⟨rfl, hI.bl⟩
      · have cfd := HFB.out wr [] (by decide)
        have hn0 : n = 0 := by omega
        subst hn0
        clear HFB HL HH
        go_wp2_with fail
        go_at_call 7; refine cfd.mono ?_; rintro e w2 ⟨V2, rfl, hp2, hb2⟩
        replace hI := hI.below hb2
        obtain ⟨o2, cp2, rfl, hc3, hc4⟩ := HasRow.slice hp2
        go_wp2_with fail
        go_ret
        exact ⟨rfl, below_new hI.bl _⟩
theorem walk (c0 : Ct) (a1 : Option Addr) (len1 cap1 : Nat) (z1 : List (List UInt8)) (w : World) (b0 : c0.rest.length ≤ 1048576) (f0 : -9223372036854775808 ≤ c0.skip ∧ c0.skip ≤ 9223372036854775807) (b1 : IsStrsS w a1 len1 cap1 z1 ∧ z1.length ≤ 1048576 ∧ ∀ z ∈ z1, z.length ≤ 1048576) :
    Calls Try.prog 4 #[ctV c0, .slice a1 len1 cap1] w fun e w' => e = .returned (.bool true) ∧ Below w.heap.size w w' := by
  obtain ⟨⟨h1, h2, h3, h4, _⟩, h5, h6⟩ := b1
  subst h2
  exact walk0 c0 a1 cap1 z1 w ⟨by omega, f0⟩ h1 h3 h4 h5 h6

set_option maxRecDepth 100000 in
theorem contract (H : Type) (enc : TypeId × Value → H) (W : World) (base : Nat) (args : Array Value) (ds gs : List (DataW H)) (before : List MemPlace)
    (hval0 : ∀ (j : Nat) t v, Try.f4.params[j]? = some t → args[j]? = some v → Value.okWide Try.prog W .any base t v)
    (hW : DataW.Whole enc Try.prog Try.f4.params.toList Rows.cutterChunksSpec.vars false W args.toList ds gs before) (hk : Rows.uptoSmall H (ds ++ gs) = true)
    (hsz0 : (DataW.weightsEach Try.prog (Try.f4.params.toList ++ Rows.cutterChunksSpec.plain.varTypes Try.prog) (ds ++ gs)).all (· ≤ reachBytes) = true) :
    Calls Try.prog 4 args W fun e W' => ∃ v, e = .returned v ∧ Rows.cutterChunksSpec.post enc Try.prog Try.f4 false true false false W args v W' := by
  have hsz : (DataW.weightsEach Try.prog (Try.f4.params.toList ++ Rows.cutterChunksSpec.plain.varTypes Try.prog) (ds ++ gs)).all (· ≤ reachBytes) = true := hsz0
  clear hsz0
  have hval : ∀ (j : Nat) t v, Try.f4.params[j]? = some t → args[j]? = some v → Value.okWide Try.prog W .any base t v := hval0
  have hW' := hW
  obtain ⟨p, q, hA0, hV, rfl, hfz, hnd⟩ := hW
  have hA : DataW.TrodAll enc Try.prog W 0 (fun _ => true) true Try.f4.params.toList args.toList ds p := hA0
  rw [Try.params4] at hA hval hsz
  obtain ⟨v0, vs0, d0, ds0, p0, q0, hargs, rfl, rfl, h0, r0⟩ := trodAll_cons hA
  obtain ⟨v1, vs1, d1, ds1, p1, q1, rfl, rfl, rfl, h1, r1⟩ := trodAll_cons r0
  obtain ⟨rfl, rfl, rfl⟩ := trodAll_nil r1
  obtain rfl : args = #[v0, v1] := by cases args; simp_all
  obtain ⟨rfl, rfl⟩ := trodVars_none hV
  have k0 := h0
  have lt0 : ∀ x ∈ p0, x.block < W.heap.size := by obtain ⟨m, hm⟩ := k0; exact DataW.trod_lt m _ _ _ hm
  obtain ⟨c0, rfl, f0, ds0', rfl, g0⟩ := Cut.open_cut (hval 0 23 v0 rfl rfl) h0
  have b0 := bulk_part hk (j := 0) rfl g0
  obtain ⟨a1, len1, cap1, rfl⟩ := okWide_slice Try.underlying34 (hval 1 34 v1 rfl rfl)
  have k1 := h1
  have lt1 : ∀ x ∈ p1, x.block < W.heap.size := by obtain ⟨m, hm⟩ := k1; exact DataW.trod_lt m _ _ _ hm
  obtain ⟨z1, b1⟩ : ∃ zs, IsStrsS W a1 len1 cap1 zs ∧ zs.length ≤ 1048576 ∧ ∀ z ∈ zs, z.length ≤ 1048576 := by
    obtain ⟨fuel, hf⟩ := h1
    rcases Go.Deep.open_strs Try.underlying34 Try.underlying9 (by kernel_rfl) hf with ⟨hcs, _⟩ | ⟨x, l, c, m, Sx, hcs, _, hl, hm, hmm, hx, hr⟩
    · simp [Value.cells] at hcs
      obtain ⟨rfl, rfl, rfl⟩ := hcs
      exact ⟨[], isStrsS_nil W, by simp, by simp⟩
    · simp [Value.cells] at hcs
      obtain ⟨rfl, rfl, rfl⟩ := hcs
      have hs := sized_slice hsz (j := 1) (t := 34) (e := 9) rfl (congrArg some (Prod.mk.inj hx).1) Try.underlying34
      rw [show Try.prog.bytesOf 9 = 16 by kernel_rfl] at hs
      have hbk := bulk_row hk (j := 1) (congrArg some (Prod.mk.inj hx).1)
      have hbt := fun i s hi => bulk_text hk (j := 1) (congrArg some (Prod.mk.inj hx).1) (i := i) (s := s) hi
      refine ⟨_, isStrsS_of hl hm (fun i hi => hr i (by rw [hmm]; split <;> omega)) (by simpa [reachBytes] using Nat.le_trans (Nat.mul_le_mul_right 16 (Nat.le_add_right _ _)) hs), by simpa using hbk, fun z hz => ?_⟩
      obtain ⟨i, hi, rfl⟩ := List.mem_map.1 hz
      exact hbt i _ (by rw [List.getElem?_map, List.getElem?_range (List.mem_range.1 hi)]; rfl)
  clear hA0 hval0
  refine (walk c0 a1 len1 cap1 z1 W b0 f0 b1).mono fun e W' ⟨he, bel⟩ => ?_
  subst he
  exact ⟨_, rfl, _, _, _, [], _, [], hW', trodAll_mk1 (shut_bool Try.underlying4 _), (trodAll_cons_mk (Below.trod laidOut (by kernel_rfl) (of_decide_eq_true (by kernel_rfl)) k0 bel lt0) (trodAll_cons_mk (Below.trod laidOut (by kernel_rfl) (of_decide_eq_true (by kernel_rfl)) k1 bel lt1) trodAll_mk0)), rfl, bel.frame _, fun h => by cases h⟩
set_option maxRecDepth 100000 in
theorem lifted (os : Os) (started : os.Started) (H : Type) (enc : TypeId × Value → H) (F : Stop.Interp) :
    ReturnsInHanded {} Try.checked os 4 .any ((Rows.OpenSpec.upto Rows.cutterChunksSpec).pre6 enc Try.prog Try.f4 Rows.cutterChunksUptoRow.domain false) (((Rows.OpenSpec.upto Rows.cutterChunksSpec).at F).post enc Try.prog Try.f4 false true false false) := by
  refine returnsInHanded_of_cond_sized (C := Try.checked) (s := Rows.OpenSpec.upto Rows.cutterChunksSpec) (k := Rows.uptoSmall) rfl own started (by kernel_rfl) Try.func4
    (OpenSpec.witness (enc := enc) (C := Try.checked) (s := Rows.OpenSpec.upto Rows.cutterChunksSpec) (k := Rows.uptoSmall) rfl false ⟨#[], #[.agg #[.string ByteArray.empty, .bool false, .int .i64 0], .slice none 0 0], []⟩ 8 (by kernel_rfl) (by kernel_rfl) (by kernel_rfl)
      (x := ([.agg [.lit (.string []), .lit (.bool false), .lit (.int .i64 0)], .nil], [], [])) (by kernel_rfl) rfl (by kernel_rfl)) ?_
  intro W base args ds gs before hval hW _ hk hsz _
  exact contract H enc W base args ds gs before hval hW hk hsz

theorem over : Rows.cutterChunksUptoRow.holds Try.pinned (Rows.OpenSpec.upto Rows.cutterChunksSpec) :=
  OpenClaim.holds_of_cond 4 Try.f4 rfl rfl rfl rfl rfl rfl rfl ⟨rfl, rfl, rfl, rfl, rfl⟩ rfl rfl rfl rfl rfl (by kernel_rfl) Try.func4 (by kernel_rfl)
    (of_decide_eq_true (by kernel_rfl)) (by unfold Func.isWrapper; first | (rw [if_pos (by decide +kernel)]; kernel_rfl) | (rw [if_neg (by decide +kernel)]; exact ⟨rfl, rfl⟩))
    (fun os started H enc _ F => lifted os started H enc F)
end cutterChunks
theorem cchunks_holds : Rows.CutterChunksUptoSaid := cutterChunks.over
#print axioms cchunks_holds
end Go.Proofs.Ytkmchoipddaohaa
