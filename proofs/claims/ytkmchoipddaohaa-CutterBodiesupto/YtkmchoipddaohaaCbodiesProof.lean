/- For every text and row of bodies, which together hold at most 1,048,576 values and letters (the second form's bound): spoorlaw12.CutterBodies returns true, and changes nothing that was there. -/
import Derived.Test.YtkmchoipddaohaaUptoKit
import Derived.Test.YtkmchoipddaohaaCutSame
import Derived.Test.YtkmchoipddaohaaCutOpen
import Derived.ShutString
import Derived.JoinedCond
import Derived.Deep.CondSized
import Derived.Deep.Strs
set_option linter.unusedVariables false
namespace Go.Proofs.Ytkmchoipddaohaa
namespace cutterBodies
open Go.ChangeShapes Go.WideShapes Go.ChangeAt Go.RowKit Go.Shelf
open Go.ChangeMaps (open_string shut_string)
open Go.Proofs.Ytkmchoipddaohaa.Cut
attribute [-go_sem] Builtin.append_

theorem own : ownKnob Try.prog.godebug = none := by kernel_rfl
theorem laidOut : laidOutB Try.prog = true := by kernel_rfl
def bodyP (z : List UInt8) : PcT := (1, z)
/-- what the bodies of the first k make -/
def sK (zs : List (List UInt8)) (k : Nat) : List UInt8 := wrapsL (zs.take k)
def pK (zs : List (List UInt8)) (k : Nat) : List PcT := (zs.take k).map bodyP
theorem sK_succ (zs : List (List UInt8)) (k : Nat) (h : k < zs.length) : sK zs (k + 1) = sK zs k ++ wrapL zs[k] := by
  unfold sK wrapsL; rw [List.take_succ_eq_append_getElem h, List.flatMap_append]; simp
theorem pK_succ (zs : List (List UInt8)) (k : Nat) (h : k < zs.length) : pK zs (k + 1) = pK zs k ++ [bodyP zs[k]] := by
  unfold pK; rw [List.take_succ_eq_append_getElem h, List.map_append]; rfl
theorem pK_len (zs : List (List UInt8)) (k : Nat) (h : k ≤ zs.length) : (pK zs k).length = k := by unfold pK; simp; omega
/-- the bodies so far are fit -/
def FitK (zs : List (List UInt8)) (k : Nat) : Prop := ∀ z ∈ zs.take k, 1 ≤ z.length ∧ z.length ≤ 64
theorem FitK.succ {zs : List (List UInt8)} {k : Nat} (h : FitK zs k) (hk : k < zs.length) (h1 : 1 ≤ zs[k].length ∧ zs[k].length ≤ 64) : FitK zs (k + 1) := by
  intro z hz
  rw [List.take_succ_eq_append_getElem hk, List.mem_append, List.mem_singleton] at hz
  rcases hz with hz | rfl
  · exact h z hz
  · exact h1
theorem sK_len {zs : List (List UInt8)} : ∀ {k : Nat}, k ≤ zs.length → FitK zs k → (sK zs k).length ≤ 67 * k := by
  intro k
  induction k with
  | zero => intro _ _; simp [sK, wrapsL]
  | succ k ih =>
    intro hk hf
    have h1 := ih (by omega) (fun z hz => hf z (by rw [List.take_succ_eq_append_getElem (show k < zs.length by omega)]; exact List.mem_append_left _ hz))
    have h2 := hf zs[k] (by rw [List.take_succ_eq_append_getElem (show k < zs.length by omega)]; exact List.mem_append_right _ (List.mem_singleton_self _))
    rw [sK_succ zs k (by omega), List.length_append, wrap_len]
    omega
/-- the box of c; the row of what is wanted -/
structure At (w W : World) (g : Nat) (c : Ct) (v : Value) (ps : List PcT) (u : Value) (ls : List PcT) : Prop where
  cc : RowAt W g [strV c.rest, .bool c.bad, .int .i64 c.skip] 23
  ow : W.ownsRow (g + 1) 38 2 v ps.length (pcCs ps)
  ll : HasPcs W u ls
  bl : Below w.heap.size w W
  sz : g + 1 ≤ W.heap.size
  lt : w.heap.size ≤ g
  ne : 0 < ls.length → ∀ a n c, u = .slice (some a) n c → a.block < g
theorem At.below {w W W' : World} {g : Nat} {c : Ct} {v u : Value} {ps ls : List PcT} (h : At w W g c v ps u ls) (hb : Below W.heap.size W W') : At w W' g c v ps u ls :=
  ⟨h.cc.below hb, own_below h.ow hb, h.ll.keep hb, below2 h.bl hb, Nat.le_trans h.sz hb.size, h.lt, h.ne⟩
theorem HasPcs.grown2 {W W' : World} {v : Value} {ps : List PcT} {r : Option Nat} (h : HasPcs W v ps) (hg : W.grownBy W' r) (hB : 0 < ps.length → ∀ a n c, v = .slice (some a) n c → some a.block ≠ r) : HasPcs W' v ps := by
  refine ⟨h.1, ?_⟩
  rcases h.2 with h0 | ⟨a, cap, e, h1, h2, h3, h4⟩
  · exact .inl h0
  · refine .inr ⟨a, cap, e, h1, h2, fun h => ⟨(h3 h).1, Nat.lt_of_lt_of_le (h3 h).2 hg.size⟩, fun j hj => ?_⟩
    have hn : 0 < ps.length := by rcases Nat.eq_zero_or_pos ps.length with h0 | h0; rw [h0] at hj; omega; exact h0
    have hne := hB hn a _ _ e
    obtain ⟨b, i, s⟩ := a
    obtain ⟨hs, hlt⟩ := h3 hn
    simp only at hs hlt hne
    subst hs
    have h5 := h4 j hj
    rw [addr_add] at h5 ⊢
    rw [← h5]
    exact World.cell?_of_block (w := W) (hg.block b hlt hne)
theorem At.tell {w W : World} {g : Nat} {c : Ct} {v u : Value} {ps ls : List PcT} (h : At w W g c v ps u ls) (z : List UInt8) (hb : ps.length ≤ 4398046511104) :
    ∃ o cap w3, (∀ ty, (Builtin.append_ #[24, 24] ty #[v, .slice (some ⟨W.heap.size, 0, none⟩) 1 1]).run Try.prog (W.alloc (.cells #[.int .u8 1, .string ⟨z.toArray⟩] 38)) = .ok (.slice o (ps.length + 1) cap) w3) ∧ At w w3 g c (.slice o (ps.length + 1) cap) (ps ++ [bodyP z]) u ls := by
  obtain ⟨q, cap, w3, hrun, h1, h2⟩ := append_pc (bodyP z) h.ow hb h.sz
  have hA := h.below (below_new (Below.refl _ W) (.cells #[.int .u8 1, .string ⟨z.toArray⟩] 38))
  refine ⟨_, cap, w3, hrun, rowAt_kept hA.cc h2 (own_ne h.ow (by omega)), ?_, HasPcs.grown2 hA.ll h2 (fun h0 a n c e => own_ne h.ow (by have := h.ne h0 a n c e; omega)), ?_, Nat.le_trans hA.sz h2.size, h.lt, h.ne⟩
  · rw [pcCs_app, List.length_append]; exact h1
  · exact hA.bl.grown h2 (by have := hA.bl.size; omega) (fun k e => by have := own_at h.ow k e; have := h.lt; omega)
set_option maxHeartbeats 8000000 in
theorem walk0 (ah : List UInt8) (a : Option Addr) (cap : Nat) (zs : List (List UInt8)) (w : World) (hah : ah.length ≤ 1048576) (hh : HasStrs w (.slice a zs.length cap) zs) (hc1 : zs.length ≤ cap) (hc2 : cap ≤ 9223372036854775807) (hn : zs.length ≤ 1048576) (hz : ∀ z ∈ zs, z.length ≤ 1048576) :
    Calls Try.prog 5 #[.string ⟨ah.toArray⟩, .slice a zs.length cap] w fun e w' => e = .returned (.bool true) ∧ Below w.heap.size w w' := by
  have cl := lives_any
  have HH : Hid (∀ wr : World, Below w.heap.size w wr → HasStrs wr (.slice a zs.length cap) zs) := fun wr hb => hh.keep hb
  have heq := ct_eql
  have hgd := ct_guard
  obtain ⟨n, hnd⟩ : ∃ n, n = zs.length := ⟨_, rfl⟩
  have HN : Hid (n = zs.length) := hnd
  rw [← hnd] at HH hc1 hn ⊢
  have hni : (n : Int) ≤ 1048576 := by omega
  have hai : (ah.length : Int) ≤ 1048576 := by omega
  have cf0 : ∀ W : World, Calls Try.prog 7 #[.agg #[.string ⟨#[]⟩, .bool false, .int .i64 0], .string ⟨ah.toArray⟩] W fun e w' => ∃ V, e = .returned (.tuple #[ctV (feedC zeroC ah).1, V, .int .i64 0]) ∧ HasPcs w' V (feedC zeroC ah).2 ∧ Below W.heap.size W w' := fun W => by
    have := feed_any zeroC ah W ⟨by decide, by decide, by decide⟩ (by omega)
    rw [(fed_ok (c := zeroC) rfl ah).1, (fed_ok (c := zeroC) rfl ah).2] at this
    exact this
  have HOK : Hid (okC (feedC zeroC ah).1 = true) := feed_ok (c := zeroC) ah rfl
  have HLP : Hid ((feedC zeroC ah).2.length ≤ 1048576) := Nat.le_trans (feed_len ah zeroC) hah
  have HF3 : Hid (∀ s : List UInt8, feedC zeroC (ah ++ s) = ((feedC (feedC zeroC ah).1 s).1, (feedC zeroC ah).2 ++ (feedC (feedC zeroC ah).1 s).2)) := fun s => feed_app ah s zeroC
  clear hh hnd
  generalize feedC zeroC ah = F at *
  obtain ⟨⟨r, b, s⟩, ls⟩ := F
  unfold ctV strV at cf0
  simp only at *
  go_enter Try.func5, Try.ntmps5
  go_wp2_with fail
  go_at_call 11; refine (cl _).mono ?_; rintro e w1 ⟨rfl, hb1⟩
  go_wp2_with fail
  go_at_call 7; refine (cf0 _).mono ?_; rintro e w2 ⟨V2, rfl, hp2, hb2⟩
  obtain ⟨o2, cp2, rfl, hc3, hc4⟩ := HasRow.slice hp2
  go_upto_region 4 with fail
  obtain ⟨Y, hY⟩ : ∃ Y, Y = w2.alloc (.cells #[.string ⟨r.toArray⟩, .bool b, .int .i64 s] 23) := ⟨_, rfl⟩
  have hbx : Below w2.heap.size w2 Y := by rw [hY]; exact below_new (Below.refl _ _) _
  have hne : 0 < ls.length → ∀ a n c, (Value.slice o2 ls.length cp2) = .slice (some a) n c → a.block < w2.heap.size := by
    intro h0 a n c e
    obtain ⟨_, b', i', e', hlt', _⟩ := HasRow.at hp2 h0
    injection e with e1
    rw [e1] at e'
    injection e' with e'
    rw [e']
    exact hlt'
  have hA : At w Y w2.heap.size ⟨r, b, s⟩ (.slice none 0 0) [] (.slice o2 ls.length cp2) ls := ⟨by rw [hY]; exact RowAt.new _ _ _, World.ownsRow_nil _ _ _ _, hp2.keep hbx, below2 (below2 hb1 hb2) hbx, by rw [hY]; simp, (below2 hb1 hb2).size, hne⟩
  rw [← hY]
  clear hY hbx hb1 hb2 cl hp2 hne
  generalize w2.heap.size = g at hA ⊢
  have HA : Hid (At w Y g ⟨r, b, s⟩ (.slice none 0 0) [] (.slice o2 ls.length cp2) ls) := hA
  obtain ⟨x0, x1, x2, xf⟩ := cells3 hA.cc
  unfold strV at x0
  have hbl := hA.bl
  clear hA
  have hsk := ((okC_iff _).1 HOK.out).2.1
  simp only at hsk
  have HCF : Hid (∀ (W : World) (l : List UInt8), l.length ≤ 1099511627776 → Calls Try.prog 7 #[.agg #[.string ⟨r.toArray⟩, .bool b, .int .i64 s], .string ⟨l.toArray⟩] W fun e w' => ∃ V, e = .returned (.tuple #[ctV (feedC ⟨r, b, s⟩ l).1, V, .int .i64 0]) ∧ HasPcs w' V (feedC ⟨r, b, s⟩ l).2 ∧ Below W.heap.size W w') := fun W l hl => by
    have hrl := rest_le HOK.out
    simp only at hrl
    have := feed_any ⟨r, b, s⟩ l W ⟨by simp only; omega, by simp only; omega, by simp only; omega⟩ hl
    rw [(fed_ok HOK.out l).1, (fed_ok HOK.out l).2] at this
    exact this
  have HC0 : Hid (∀ (W : World) (l : List UInt8), l.length ≤ 1099511627776 → Calls Try.prog 7 #[.agg #[.string ⟨#[]⟩, .bool false, .int .i64 0], .string ⟨l.toArray⟩] W fun e w' => ∃ V, e = .returned (.tuple #[ctV (feedC zeroC l).1, V, .int .i64 0]) ∧ HasPcs w' V (feedC zeroC l).2 ∧ Below W.heap.size W w') := fun W l hl => by
    have := feed_any zeroC l W ⟨by decide, by decide, by decide⟩ hl
    rw [(fed_ok (c := zeroC) rfl l).1, (fed_ok (c := zeroC) rfl l).2] at this
    exact this
  by_cases hr : r = []
  · by_cases hs0 : 0 < s
    · have d1 : decide (0 < s) = true := decide_eq_true hs0
      subst hr
      clear HCF HC0 HF3
      go_wp2_with fail
      go_ret
      exact ⟨rfl, hbl⟩
    · have hs1 : s = 0 := by omega
      subst hr hs1
      clear hs0 hsk
      go_wp2_with fail
      have HS0 : Hid (sK zs 0 = [] ∧ pK zs 0 = [] ∧ FitK zs 0) := by exact ⟨rfl, rfl, fun z hz => by simp at hz⟩
      go_loopw [8, 9, 45] (fun s8 s9 i wr => ∃ (k : Nat) (o : Option Addr) (cp : Nat), k ≤ n ∧ i = .int .i64 k ∧ s8 = .string ⟨(sK zs k).toArray⟩ ∧ s9 = .slice o k cp ∧ Hid (FitK zs k) ∧ Hid (At w wr g ⟨[], b, 0⟩ (.slice o k cp) (pK zs k) (.slice o2 ls.length cp2) ls)) (fun _ _ i _ => n - (intOf i).toNat)
      case atStart => exact ⟨0, none, 0, Nat.zero_le _, rfl, by rw [HS0.out.1], rfl, HS0.out.2.2, by rw [HS0.out.2.1]; exact HA.out⟩
      case round =>
        obtain ⟨k, o, cp, hk, rfl, rfl, rfl, HFK, HI⟩ := hrel
        have hI := HI.out
        have hkN : k ≤ zs.length := by rw [← HN.out]; exact hk
        have hsl := sK_len hkN HFK.out
        by_cases hlt : k < n
        · have hkz : k < zs.length := by rw [← HN.out]; exact hlt
          obtain ⟨b1, i1, rfl, hb1, a1⟩ := HasStrs.cell (HH.out _ hI.bl) k hkz
          have hzk := hz zs[k] (List.getElem_mem hkz)
          have cw := fun W => wrap_any zs[k] W (by omega)
          have HFS := fun h1 => HFK.out.succ hkz h1
          have HPS := pK_succ zs k hkz
          have HPL := pK_len zs k hkN
          have hcs : (⟨(sK zs k).toArray⟩ : ByteArray) ++ ⟨(wrapL zs[k]).toArray⟩ = ⟨(sK zs (k + 1)).toArray⟩ := by rw [sK_succ zs k hkz, bytes_cat]
          have hwl := wrap_len zs[k]
          have hwo := wrap_ok zs[k]
          have hki : (k : Int) < (n : Int) := by omega
          unfold strV at a1 cw
          clear HH HCF HC0 HF3 HS0
          generalize hS1 : sK zs (k + 1) = s1 at *
          have HS1 : Hid (sK zs (k + 1) = s1) := hS1
          generalize sK zs k = s0 at *
          generalize zs[k] = z at *
          clear hS1
          cases hfz : fitN z.length
          · rw [hfz] at cw
            have hbadz : z.length = 0 ∨ 64 < z.length := by unfold fitN at hfz; rw [decide_eq_false_iff_not] at hfz; omega
            clear hfz hcs HPS HI HS1
            rcases hbadz with h0 | h64
            · have t0 : ((z.length : Int) == 0) = true := by rw [h0]; rfl
              clear h0
              go_wp2_with fail
              go_at_call 9; refine (cw _).mono ?_; rintro e w3 ⟨rfl, hb3⟩
              go_wp2_with fail
              go_ret
              exact ⟨rfl, below2 hI.bl hb3⟩
            · have t0 : ((z.length : Int) == 0) = false := beq_eq_false_iff_ne.2 (by omega)
              have t1 : decide ((64 : Int) < (z.length : Int)) = true := decide_eq_true (by omega)
              have t1' : decide (64 < z.length) = true := decide_eq_true h64
              clear h64
              go_wp2_with fail
              go_at_call 9; refine (cw _).mono ?_; rintro e w3 ⟨rfl, hb3⟩
              go_wp2_with fail
              go_ret
              exact ⟨rfl, below2 hI.bl hb3⟩
          · rw [hfz] at cw
            have hzo : 1 ≤ z.length ∧ z.length ≤ 64 := wrap_ok z hfz
            have hwl2 : (wrapL z).length ≤ 67 := by omega
            have HFN : Hid (FitK zs (k + 1)) := HFS hzo
            clear hfz hwo HFS hwl HI
            have hwi : ((wrapL z).length : Int) ≤ 67 := by omega
            have hsi : (s0.length : Int) ≤ 1099511627776 := by omega
            have hnn : ¬ 9223372036854775807 < s0.length + (wrapL z).length := by omega
            simp only [if_true] at cw
            generalize wrapL z = wz at *
            go_wp2_with fail
            go_at_call 9; refine (cw _).mono ?_; rintro e w3 ⟨rfl, hb3⟩
            replace hI := hI.below hb3
            obtain ⟨o5, cp5, w5, hrun, hI5⟩ := hI.tell z (by rw [HPL]; omega)
            rw [HPL] at hrun hI5
            rw [← HPS] at hI5
            have HI5 : Hid (At w w5 g ⟨[], b, 0⟩ (.slice o5 (k + 1) cp5) (pK zs (k + 1)) (.slice o2 ls.length cp2) ls) := hI5
            clear hI hI5 HPS
            go_wp2_with fail
            go_roundw
            case rel => exact ⟨k + 1, o5, cp5, by omega, by go_num, by rw [HS1.out], rfl, HFN, HI5⟩
            case measure => simp [intOf]; omega
        · obtain rfl : k = n := by omega
          have hfk := HFK.out
          have hkN2 : zs.take k = zs := by rw [HN.out]; exact List.take_length
          have hws := feed_wraps zs (fun z hz => hfk z (by rw [hkN2]; exact hz)) ⟨[], b, 0⟩ rfl rfl
          have hsz : sK zs k = wrapsL zs := by unfold sK; rw [hkN2]
          have hpz : pK zs k = zs.map (fun z => (1, z)) := by unfold pK; rw [hkN2]; rfl
          have hd : feedC ⟨[], b, 0⟩ (sK zs k) = (if zs = [] then ⟨[], b, 0⟩ else zeroC, pK zs k) := by rw [hsz, hpz]; exact Prod.ext hws.2 hws.1
          have hall := HF3.out (sK zs k)
          rw [hd] at hall
          have c1 := HCF.out wr (sK zs k) (by omega)
          rw [hd] at c1
          have c2 := fun W => HC0.out W (ah ++ sK zs k) (by rw [List.length_append]; omega)
          rw [hall] at c2
          have hcat := bytes_cat ah (sK zs k)
          have HNZ : Hid (k = zs.length) := HN.out
          have hpl : (pK zs k).length = k := pK_len zs k hkN
          clear HCF HC0 HF3 HH hws hsz hpz hd hall HFK hfk HI HS0 HA hbl x0 x1 x2 xf hkN2
          have hD : ∃ r3 b3, (if zs = [] then (⟨[], b, 0⟩ : Ct) else zeroC) = ⟨[], b3, 0⟩ ∧ r3 = 0 ∧ (k ≠ 0 → b3 = false) := by
            by_cases hz0 : zs = []
            · rw [if_pos hz0]; exact ⟨0, b, rfl, rfl, fun h => absurd (by rw [HNZ.out, hz0]; rfl) h⟩
            · rw [if_neg hz0]; exact ⟨0, false, rfl, rfl, fun _ => rfl⟩
          obtain ⟨_, b3, hD, _, hb3⟩ := hD
          rw [hD] at c1 c2
          clear hD HNZ
          generalize sK zs k = sw at *
          generalize pK zs k = pw at *
          have HPW : Hid (pw.length = k) := hpl
          clear hpl
          generalize ah ++ sw = aw at *
          unfold ctV strV at c1 c2
          simp only at c1 c2
          obtain ⟨x0, x1, x2, xf⟩ := cells3 hI.cc
          unfold strV at x0
          have hsi : (sw.length : Int) ≤ 1099511627776 := by omega
          have hnn : ¬ 9223372036854775807 < ah.length + sw.length := by omega
          go_wp2_with fail
          go_at_call 7; refine c1.mono ?_; rintro e w3 ⟨V3, rfl, hp3, hb4⟩
          replace hI := hI.below hb4
          obtain ⟨o3, cp3, rfl, hc5, hc6⟩ := HasRow.slice hp3
          go_upto_region 18 with fail
          obtain ⟨Z, hZ⟩ : ∃ Z, Z = w3.alloc (.cells #[.string ⟨#[]⟩, .bool b3, .int .i64 0] 23) := ⟨_, rfl⟩
          have hbx : Below w3.heap.size w3 Z := by rw [hZ]; exact below_new (Below.refl _ _) _
          have rz : RowAt Z w3.heap.size [.string ⟨#[]⟩, .bool b3, .int .i64 0] 23 := by rw [hZ]; exact RowAt.new _ _ _
          rw [← hZ]
          replace hI := hI.below hbx
          replace hp3 := hp3.keep hbx
          clear hZ hbx hb4 x0 x1 x2 xf c1
          generalize w3.heap.size = g3 at rz ⊢
          go_wp2_with fail
          go_at_call 7; refine (c2 _).mono ?_; rintro e w4 ⟨V4, rfl, hp4, hb4⟩
          replace hI := hI.below hb4
          replace hp3 := hp3.keep hb4
          replace rz := rz.below hb4
          obtain ⟨o4, cp4, rfl, hc7, hc8⟩ := HasRow.slice hp4
          go_upto_region 19 with fail
          obtain ⟨Z2, hZ2⟩ : ∃ Z2, Z2 = w4.alloc (.cells #[.string ⟨#[]⟩, .bool b3, .int .i64 0] 23) := ⟨_, rfl⟩
          have hbx : Below w4.heap.size w4 Z2 := by rw [hZ2]; exact below_new (Below.refl _ _) _
          have rz2 : RowAt Z2 w4.heap.size [.string ⟨#[]⟩, .bool b3, .int .i64 0] 23 := by rw [hZ2]; exact RowAt.new _ _ _
          rw [← hZ2]
          replace hI := hI.below hbx
          replace hp3 := hp3.keep hbx
          replace hp4 := hp4.keep hbx
          replace rz := rz.below hbx
          clear hZ2 hbx hb4 c2
          generalize w4.heap.size = g4 at rz2 ⊢
          have cs1 := same_any pw _ _ Z2 hp3 (hasRow_own hI.ow) (by have := HPW.out; omega)
          go_wp2_with fail
          go_at_call 14; refine cs1.mono ?_; rintro e w5 ⟨rfl, hb5⟩
          replace hI := hI.below hb5
          replace hp3 := hp3.keep hb5
          replace hp4 := hp4.keep hb5
          replace rz := rz.below hb5
          replace rz2 := rz2.below hb5
          clear hb5 cs1
          obtain ⟨z0, z1, z2, zf⟩ := cells3 rz
          obtain ⟨q0, q1, q2, qf⟩ := cells3 rz2
          obtain ⟨E1, hE1⟩ : ∃ E1, E1 = w5.alloc (.cells #[] 38) := ⟨_, rfl⟩
          have hbE : Below w5.heap.size w5 E1 := by rw [hE1]; exact below_new (Below.refl _ _) _
          have hoE : E1.ownsRow w5.heap.size 38 2 (.slice (some ⟨w5.heap.size, 0, none⟩) 0 0) 0 [] := by
            rw [hE1]
            exact World.ownsRow_made (base := w5.heap.size) (e := 38) (size := 2) w5 #[] 0 (Nat.le_refl _) (by decide) (by simp)
          obtain ⟨v6, w6, hrun6, ho6, hg6⟩ := append_pcs hoE (hI.ll.keep hbE) (by have := HLP.out; omega) hbE.size
          have hb6 : Below w5.heap.size w5 w6 := hbE.grown hg6 hbE.size (fun j ej => by simp [Value.ownBlock] at ej; omega)
          rw [Nat.zero_add, List.nil_append] at ho6
          obtain ⟨v7, w7, hrun7, ho7, hg7⟩ := append_pcs ho6 (hp3.keep hb6) (by have := HLP.out; have := HPW.out; omega) hb6.size
          have hb7 : Below w5.heap.size w5 w7 := hb6.grown hg7 hb6.size (fun j ej => own_at ho6 j ej)
          rw [← List.length_append, ← pcCs_app] at ho7
          have cs2 := same_any (ls ++ pw) _ _ w7 (hp4.keep hb7) (hasRow_own ho7) (by rw [List.length_append]; have := HLP.out; have := HPW.out; omega)
          rw [hE1] at hrun6
          obtain ⟨o6, cp6, rfl, _, _⟩ := HasRow.slice (hasRow_own ho6)
          obtain ⟨o7, cp7, rfl, _, _⟩ := HasRow.slice (hasRow_own ho7)
          have hfin := below2 hI.bl hb7
          simp only [List.length_append] at cs2 hrun7
          clear hE1 hbE hoE ho6 hg6 ho7 hg7 hb6 hb7 hp3 hp4 rz rz2 hI
          by_cases hk0 : k = 0
          · have t0 : ((k : Int) == 0) = true := by rw [hk0]; rfl
            clear hb3
            go_wp2_with fail
            go_at_call 14; refine cs2.mono ?_; rintro e w8 ⟨rfl, hb8⟩
            go_wp2_with fail
            go_ret
            exact ⟨rfl, below2 hfin hb8⟩
          · have t0 : ((k : Int) == 0) = false := beq_eq_false_iff_ne.2 (by omega)
            have hb3' := hb3 hk0
            subst hb3'
            clear hb3
            go_wp2_with fail
            go_at_call 14; refine cs2.mono ?_; rintro e w8 ⟨rfl, hb8⟩
            go_wp2_with fail
            go_ret
            exact ⟨rfl, below2 hfin hb8⟩
  · have hre : r.isEmpty = false := by cases r; exact absurd rfl hr; rfl
    clear HCF HC0 HF3 hr
    go_wp2_with fail
    go_ret
    exact ⟨rfl, hbl⟩
theorem walk (a0 : ByteArray) (a1 : Option Addr) (len1 cap1 : Nat) (z1 : List (List UInt8)) (w : World) (b0 : a0.size ≤ 1048576) (b1 : IsStrsS w a1 len1 cap1 z1 ∧ z1.length ≤ 1048576 ∧ ∀ z ∈ z1, z.length ≤ 1048576) :
    Calls Try.prog 5 #[.string a0, .slice a1 len1 cap1] w fun e w' => e = .returned (.bool true) ∧ Below w.heap.size w w' := by
  obtain ⟨⟨h1, h2, h3, h4, _⟩, h5, h6⟩ := b1
  obtain ⟨l, rfl, hd⟩ := str_list a0
  subst h2
  exact walk0 l a1 cap1 z1 w (by omega) h1 h3 h4 h5 h6

set_option maxRecDepth 100000 in
theorem contract (H : Type) (enc : TypeId × Value → H) (W : World) (base : Nat) (args : Array Value) (ds gs : List (DataW H)) (before : List MemPlace)
    (hval0 : ∀ (j : Nat) t v, Try.f5.params[j]? = some t → args[j]? = some v → Value.okWide Try.prog W .any base t v)
    (hW : DataW.Whole enc Try.prog Try.f5.params.toList Rows.cutterBodiesSpec.vars false W args.toList ds gs before) (hk : Rows.uptoSmall H (ds ++ gs) = true)
    (hsz0 : (DataW.weightsEach Try.prog (Try.f5.params.toList ++ Rows.cutterBodiesSpec.plain.varTypes Try.prog) (ds ++ gs)).all (· ≤ reachBytes) = true) :
    Calls Try.prog 5 args W fun e W' => ∃ v, e = .returned v ∧ Rows.cutterBodiesSpec.post enc Try.prog Try.f5 false true false false W args v W' := by
  have hsz : (DataW.weightsEach Try.prog (Try.f5.params.toList ++ Rows.cutterBodiesSpec.plain.varTypes Try.prog) (ds ++ gs)).all (· ≤ reachBytes) = true := hsz0
  clear hsz0
  have hval : ∀ (j : Nat) t v, Try.f5.params[j]? = some t → args[j]? = some v → Value.okWide Try.prog W .any base t v := hval0
  have hW' := hW
  obtain ⟨p, q, hA0, hV, rfl, hfz, hnd⟩ := hW
  have hA : DataW.TrodAll enc Try.prog W 0 (fun _ => true) true Try.f5.params.toList args.toList ds p := hA0
  rw [Try.params5] at hA hval hsz
  obtain ⟨v0, vs0, d0, ds0, p0, q0, hargs, rfl, rfl, h0, r0⟩ := trodAll_cons hA
  obtain ⟨v1, vs1, d1, ds1, p1, q1, rfl, rfl, rfl, h1, r1⟩ := trodAll_cons r0
  obtain ⟨rfl, rfl, rfl⟩ := trodAll_nil r1
  obtain rfl : args = #[v0, v1] := by cases args; simp_all
  obtain ⟨rfl, rfl⟩ := trodVars_none hV
  obtain ⟨a0, rfl, rfl, rfl, w0⟩ := open_string Try.underlying9 (hval 0 9 v0 rfl rfl) h0
  have b0 : a0.size ≤ 1048576 := bulk_str hk (j := 0) rfl
  obtain ⟨a1, len1, cap1, rfl⟩ := okWide_slice Try.underlying34 (hval 1 34 v1 rfl rfl)
  have k1 := h1
  have lt1 : ∀ x ∈ p1, x.block < W.heap.size := by obtain ⟨m, hm⟩ := k1; exact DataW.trod_lt m _ _ _ hm
  obtain ⟨z1, b1⟩ : ∃ zs, IsStrsS W a1 len1 cap1 zs ∧ zs.length ≤ 1048576 ∧ ∀ z ∈ zs, z.length ≤ 1048576 := by
    obtain ⟨fuel, hf⟩ := h1
    rcases Go.Deep.open_strs Try.underlying34 Try.underlying9 (by kernel_rfl) hf with ⟨hcs, _⟩ | ⟨x, l, c, m, Sx, hcs, _, hl, hm, hmm, hx, hr⟩
    · simp [Value.cells] at hcs
      obtain ⟨rfl, rfl, rfl⟩ := hcs
      exact ⟨[], isStrsS_nil W, by simp, by simp⟩
    · simp [Value.cells] at hcs
      obtain ⟨rfl, rfl, rfl⟩ := hcs
      have hs := sized_slice hsz (j := 1) (t := 34) (e := 9) rfl (congrArg some (Prod.mk.inj hx).1) Try.underlying34
      rw [show Try.prog.bytesOf 9 = 16 by kernel_rfl] at hs
      have hbk := bulk_row hk (j := 1) (congrArg some (Prod.mk.inj hx).1)
      have hbt := fun i s hi => bulk_text hk (j := 1) (congrArg some (Prod.mk.inj hx).1) (i := i) (s := s) hi
      refine ⟨_, isStrsS_of hl hm (fun i hi => hr i (by rw [hmm]; split <;> omega)) (by simpa [reachBytes] using Nat.le_trans (Nat.mul_le_mul_right 16 (Nat.le_add_right _ _)) hs), by simpa using hbk, fun z hz => ?_⟩
      obtain ⟨i, hi, rfl⟩ := List.mem_map.1 hz
      exact hbt i _ (by rw [List.getElem?_map, List.getElem?_range (List.mem_range.1 hi)]; rfl)
  clear hA0 hval0
  refine (walk a0 a1 len1 cap1 z1 W b0 b1).mono fun e W' ⟨he, bel⟩ => ?_
  subst he
  exact ⟨_, rfl, _, _, _, [], _, [], hW', trodAll_mk1 (shut_bool Try.underlying4 _), (trodAll_cons_mk (shut_string Try.underlying9 w0) (trodAll_cons_mk (Below.trod laidOut (by kernel_rfl) (of_decide_eq_true (by kernel_rfl)) k1 bel lt1) trodAll_mk0)), rfl, bel.frame _, fun h => by cases h⟩
set_option maxRecDepth 100000 in
theorem lifted (os : Os) (started : os.Started) (H : Type) (enc : TypeId × Value → H) (F : Stop.Interp) :
    ReturnsInHanded {} Try.checked os 5 .any ((Rows.OpenSpec.upto Rows.cutterBodiesSpec).pre6 enc Try.prog Try.f5 Rows.cutterBodiesUptoRow.domain false) (((Rows.OpenSpec.upto Rows.cutterBodiesSpec).at F).post enc Try.prog Try.f5 false true false false) := by
  refine returnsInHanded_of_cond_sized (C := Try.checked) (s := Rows.OpenSpec.upto Rows.cutterBodiesSpec) (k := Rows.uptoSmall) rfl own started (by kernel_rfl) Try.func5
    (OpenSpec.witness (enc := enc) (C := Try.checked) (s := Rows.OpenSpec.upto Rows.cutterBodiesSpec) (k := Rows.uptoSmall) rfl false ⟨#[], #[.string ByteArray.empty, .slice none 0 0], []⟩ 8 (by kernel_rfl) (by kernel_rfl) (by kernel_rfl)
      (x := ([.lit (.string []), .nil], [], [])) (by kernel_rfl) rfl (by kernel_rfl)) ?_
  intro W base args ds gs before hval hW _ hk hsz _
  exact contract H enc W base args ds gs before hval hW hk hsz

theorem over : Rows.cutterBodiesUptoRow.holds Try.pinned (Rows.OpenSpec.upto Rows.cutterBodiesSpec) :=
  OpenClaim.holds_of_cond 5 Try.f5 rfl rfl rfl rfl rfl rfl rfl ⟨rfl, rfl, rfl, rfl, rfl⟩ rfl rfl rfl rfl rfl (by kernel_rfl) Try.func5 (by kernel_rfl)
    (of_decide_eq_true (by kernel_rfl)) (by unfold Func.isWrapper; first | (rw [if_pos (by decide +kernel)]; kernel_rfl) | (rw [if_neg (by decide +kernel)]; exact ⟨rfl, rfl⟩))
    (fun os started H enc _ F => lifted os started H enc F)
end cutterBodies
theorem cbodies_holds : Rows.CutterBodiesUptoSaid := cutterBodies.over
#print axioms cbodies_holds
end Go.Proofs.Ytkmchoipddaohaa
