/- For every row of chunks that hold together at most 1048576 values and letters (the second form): spoorlaw13.GramCut returns true, and changes nothing that was there. -/
import Derived.Test.YtopabkkapbaibaaGramTX
import Derived.Test.YtopabkkapbaibaaCutTA
import Derived.Test.YtopabkkapbaibaaRows
import Derived.Test.YtopabkkapbaibaaGramTB
import Derived.ShutString
import Derived.JoinedCond
import Derived.Deep.CondSized
import Derived.Deep.Strs
import Derived.Deep.RegionHeld
set_option linter.unusedVariables false
namespace Go.Proofs.Ytopabkkapbaibaa.Gram
open Go.Proofs.Ytopabkkapbaibaa.Cut (Ct feedC stepC zeroC feed_app feed_body told_head toldN)

theorem feed_skip (s : List UInt8) : ∀ k : Nat, (feedC ⟨[], false, (k : Int)⟩ s).2 = (feedC zeroC (s.drop k)).2 := by
  induction s with
  | nil => intro k; simp [feedC]
  | cons b t ih =>
    intro k
    cases k with
    | zero => rfl
    | succ k =>
      have h1 : stepC ⟨[], false, ((k + 1 : Nat) : Int)⟩ b = (⟨[], false, (k : Int)⟩, []) := by
        unfold stepC
        rw [if_pos (by show (0 : Int) < ((k + 1 : Nat) : Int); omega)]
        simp only [Prod.mk.injEq, Ct.mk.injEq, true_and, and_true]
        omega
      show ((stepC ⟨[], false, ((k + 1 : Nat) : Int)⟩ b).2 ++ (feedC (stepC ⟨[], false, ((k + 1 : Nat) : Int)⟩ b).1 t).2) = _
      rw [h1]
      exact ih k
theorem feed_part (n : Nat) (h1 : 1 ≤ n) (h2 : n ≤ 64) : ∀ (t s : List UInt8), s.length + t.length < n → (feedC ⟨[245, 0, UInt8.ofNat n] ++ s, false, 0⟩ t).2 = [] := by
  intro t
  induction t with
  | nil => intro s _; rfl
  | cons b u ih =>
    intro s hl
    have ht := told_head n (by omega) (s ++ [b])
    rw [← List.append_assoc] at ht
    simp only [List.length_cons] at hl
    have hstep : stepC ⟨[245, 0, UInt8.ofNat n] ++ s, false, 0⟩ b = (⟨[245, 0, UInt8.ofNat n] ++ (s ++ [b]), false, 0⟩, []) := by
      unfold stepC
      simp only [Int.lt_irrefl, if_false]
      rw [if_neg (by simp), if_neg (by simp), ht, if_neg (by unfold Cut.fitN; simp; omega), if_neg (by simp at hl ⊢; omega), List.append_assoc]
    simp only [feedC]
    rw [hstep]
    simp only [List.nil_append]
    exact ih (s ++ [b]) (by simp at hl ⊢; omega)
theorem feed_zero (n : Nat) : ∀ s : List UInt8, s.length ≤ n → (feedC zeroC s).2 = piecesL s ∧ (feedC ⟨[], true, 0⟩ s).2 = piecesL (noM s) := by
  induction n with
  | zero =>
    intro s h
    have : s = [] := List.eq_nil_of_length_eq_zero (by omega)
    subst this
    exact ⟨rfl, rfl⟩
  | succ n ih =>
    intro s h
    have hz : (feedC zeroC s).2 = piecesL s := by
      cases s with
      | nil => rfl
      | cons b t =>
        simp only [List.length_cons] at h
        by_cases hb : b = 245
        · subst hb
          match t, h with
          | [], _ => rw [pieces_step _ (by simp)]; rfl
          | [x], _ => rw [pieces_step _ (by simp)]; rfl
          | x :: y :: t, h =>
            simp only [List.length_cons] at h
            have hx := x.toNat_lt
            have hy := y.toNat_lt
            have s1 : stepC zeroC 245 = (⟨[245], false, 0⟩, []) := rfl
            have s2 : stepC ⟨[245], false, 0⟩ x = (⟨[245, x], false, 0⟩, []) := rfl
            have hl : toldN ([245, x] ++ [y]) = x.toNat * 256 + y.toNat := by show 256 * x.toNat + y.toNat = _; omega
            rw [pieces_step _ (by simp)]
            have hfg : firstG (245 :: x :: y :: t) = msgG (245 :: x :: y :: t) := by unfold firstG; simp only [if_true]
            rw [hfg]
            unfold msgG
            simp only
            simp only [feedC, s1, s2, List.nil_append]
            by_cases hf : x.toNat * 256 + y.toNat = 0 ∨ 64 < x.toNat * 256 + y.toNat
            · have s3 : stepC ⟨[245, x], false, 0⟩ y = (⟨[], false, ((x.toNat * 256 + y.toNat : Nat) : Int)⟩, [(3, [])]) := by
                unfold stepC
                simp only [Int.lt_irrefl, if_false]
                rw [if_neg (by simp), if_neg (by simp), hl, if_pos (by unfold Cut.fitN; simp; omega)]
              rw [s3, if_pos hf, feed_skip, (ih (t.drop _) (by simp; omega)).1]
              rfl
            · rw [if_neg hf]
              obtain ⟨k, hk⟩ : ∃ k, k = x.toNat * 256 + y.toNat := ⟨_, rfl⟩
              have hx0 : x = 0 := UInt8.toNat_inj.1 (by show x.toNat = 0; omega)
              have hy0 : y = UInt8.ofNat k := by
                apply UInt8.toNat_inj.1
                rw [UInt8.toNat_ofNat_of_lt' (by show k < 256; omega), hk, hx0]
                simp
              have s3 : stepC ⟨[245, x], false, 0⟩ y = (⟨[245, 0, UInt8.ofNat k] ++ [], false, 0⟩, []) := by
                unfold stepC
                simp only [Int.lt_irrefl, if_false]
                rw [if_neg (by simp), if_neg (by simp), hl, if_neg (by unfold Cut.fitN; simp; omega), if_neg (by simp; omega), hx0, hy0]
                rfl
              rw [s3, ← hk]
              simp only [List.nil_append]
              by_cases hlt : t.length < k
              · rw [if_pos hlt, feed_part k (by omega) (by omega) t [] (by simpa using hlt)]
                rfl
              · rw [if_neg hlt]
                have e := List.take_append_drop k t
                have hne : t.take k ≠ [] := by
                  intro hc
                  have := congrArg List.length hc
                  rw [List.length_take] at this
                  simp only [List.length_nil] at this
                  omega
                have hb := feed_body k (by omega) (by omega) (t.take k) [] (by rw [List.length_take]; simp; omega) hne
                rw [show feedC ⟨[245, 0, UInt8.ofNat k] ++ [], false, 0⟩ t = feedC ⟨[245, 0, UInt8.ofNat k] ++ [], false, 0⟩ (t.take k ++ t.drop k) by rw [e], feed_app, hb, (ih (t.drop k) (by simp; omega)).1]
                rfl
        · have s1 : stepC zeroC b = (⟨[], true, 0⟩, [(2, [])]) := by
            unfold stepC zeroC
            simp only [Int.lt_irrefl, if_false, List.isEmpty_nil, if_true]
            rw [if_neg hb]
            rfl
          rw [pieces_step _ (by simp)]
          have hfg : firstG (b :: t) = ((2, []), noM t) := by unfold firstG; simp only; rw [if_neg hb]
          rw [hfg]
          simp only [feedC, s1]
          rw [(ih t (by omega)).2]
          rfl
    refine ⟨hz, ?_⟩
    cases s with
    | nil => rfl
    | cons b t =>
      simp only [List.length_cons] at h
      by_cases hb : b = 245
      · subst hb
        have e : noM (245 :: t) = 245 :: t := by unfold noM; simp
        rw [e, ← hz]
        rfl
      · have e : noM (b :: t) = noM t := by unfold noM; rw [List.dropWhile_cons_of_pos (by simpa using hb)]
        have s1 : stepC ⟨[], true, 0⟩ b = (⟨[], true, 0⟩, []) := by
          unfold stepC
          simp only [Int.lt_irrefl, if_false, List.isEmpty_nil, if_true]
          rw [if_neg hb]
        rw [e, ← (ih t (by omega)).2]
        simp only [feedC, s1]
        rfl
theorem feed_pieces (s : List UInt8) : (feedC zeroC s).2 = piecesL s := (feed_zero s.length s (Nat.le_refl _)).1
end Go.Proofs.Ytopabkkapbaibaa.Gram
namespace Go.Proofs.Ytopabkkapbaibaa
namespace gramCut
open Go.ChangeShapes Go.WideShapes Go.ChangeAt Go.RowKit Go.Shelf
open Go.ChangeMaps (open_string shut_string)
open Go.Proofs.Ytopabkkapbaibaa.Cut
attribute [-go_sem] Builtin.append_

theorem own : ownKnob Try.prog.godebug = none := by kernel_rfl
theorem laidOut : laidOutB Try.prog = true := by kernel_rfl
def catK (zs : List (List UInt8)) (k : Nat) : List UInt8 := (zs.take k).flatten
theorem catK_succ (zs : List (List UInt8)) (k : Nat) (h : k < zs.length) : catK zs (k + 1) = catK zs k ++ zs[k] := by
  unfold catK
  rw [List.take_succ_eq_append_getElem h, List.flatten_append]
  simp only [List.flatten_cons, List.flatten_nil, List.append_nil]
theorem catK_len (zs : List (List UInt8)) (hz : ∀ z ∈ zs, z.length ≤ 1048576) : ∀ k, k ≤ zs.length → (catK zs k).length ≤ 1048576 * k := by
  intro k
  induction k with
  | zero => intro _; simp [catK]
  | succ k ih =>
    intro hk
    have h1 := ih (by omega)
    have h2 := hz zs[k] (List.getElem_mem (by omega))
    rw [catK_succ zs k (by omega), List.length_append]
    omega
/-- the law's own box and row: the cutter, the pieces -/
structure At (w W : World) (g : Nat) (c : Ct) (v : Value) (ps : List PcT) : Prop where
  cc : RowAt W g [strV c.rest, .bool c.bad, .int .i64 c.skip] 30
  ow : W.ownsRow (g + 1) 70 2 v ps.length (pcCs ps)
  bl : Below w.heap.size w W
  sz : g + 1 ≤ W.heap.size
  lt : w.heap.size ≤ g
theorem At.below {w W W' : World} {g : Nat} {c : Ct} {v : Value} {ps : List PcT} (h : At w W g c v ps) (hb : Below W.heap.size W W') : At w W' g c v ps :=
  ⟨h.cc.below hb, own_below h.ow hb, below2 h.bl hb, Nat.le_trans h.sz hb.size, h.lt⟩
theorem At.store {w W : World} {g : Nat} {c : Ct} {v : Value} {ps : List PcT} (h : At w W g c v ps) (e : Ct) :
    At w (((W.setCell ⟨g, 0, none⟩ (strV e.rest)).setCell ⟨g, 1, none⟩ (.bool e.bad)).setCell ⟨g, 2, none⟩ (.int .i64 e.skip)) g e v ps := by
  have hlt := h.lt
  exact ⟨((h.cc.set1 0 _).set1 1 _).set1 2 _, own_set (own_set (own_set h.ow (by omega)) (by omega)) (by omega), bset (bset (bset h.bl (by omega)) (by omega)) (by omega), by rw [size_set, size_set, size_set]; exact h.sz, h.lt⟩
theorem own_other {W : World} {m k b : Nat} {v : Value} {xs cs : List Value} (h : W.ownsRow m 70 2 v k xs) (hr : RowAt W b cs 30) : some b ≠ v.ownBlock := by
  rcases h.2 with ⟨rfl, _⟩ | ⟨g, cap, cur, rfl, _, hg, _⟩
  · intro e; cases e
  · intro e
    injection e with e
    subst e
    rw [show W.heap[b]? = _ from hr] at hg
    injection hg with hg
    injection hg with _ hg _
    exact absurd hg (by decide)
theorem At.app {w W : World} {g g2 : Nat} {c : Ct} {v u : Value} {ps qs : List PcT} {cs : List Value} (h : At w W g c v ps) (hu : HasPcs W u qs) (hr : RowAt W g2 cs 30) (hb : (ps.length + qs.length) * 24 ≤ 140737488355328) :
    ∃ o cap w3, (∀ ty, (Builtin.append_ #[31, 31] ty #[v, u]).run Try.prog W = .ok (.slice o (ps ++ qs).length cap) w3) ∧ At w w3 g c (.slice o (ps ++ qs).length cap) (ps ++ qs) ∧ RowAt w3 g2 cs 30 := by
  obtain ⟨v', w3, hrun, ho, hg⟩ := append_pcs h.ow hu hb h.sz
  have hlt := h.lt
  rw [← List.length_append, ← pcCs_app] at ho
  obtain ⟨o, cap, rfl, _, _⟩ := HasRow.slice (hasRow_own ho)
  refine ⟨o, cap, w3, hrun, ⟨rowAt_kept h.cc hg (own_ne h.ow (by omega)), ho, ?_, Nat.le_trans h.sz hg.size, h.lt⟩, rowAt_kept hr hg (own_other h.ow hr)⟩
  exact h.bl.grown hg (by have := h.bl.size; omega) (fun k e => by have := own_at h.ow k e; omega)
theorem At.cells {w W : World} {g : Nat} {c : Ct} {v : Value} {ps : List PcT} (h : At w W g c v ps) : W.cell? ⟨g, 0, none⟩ = some (strV c.rest) ∧ W.cell? ⟨g, 1, none⟩ = some (.bool c.bad) ∧ W.cell? ⟨g, 2, none⟩ = some (.int .i64 c.skip) ∧ (∀ k, W.frozen? ⟨g, k, none⟩ = false) ∧ g < W.heap.size := by
  obtain ⟨a2, b2, e2, f2⟩ := cells3 h.cc
  exact ⟨a2, b2, e2, f2, h.cc.lt⟩
set_option maxHeartbeats 8000000 in
set_option maxRecDepth 20000 in
theorem walk0 (a : Option Addr) (cap : Nat) (zs : List (List UInt8)) (w : World) (hh : HasStrs w (.slice a zs.length cap) zs) (hc1 : zs.length ≤ cap) (hc2 : cap ≤ 9223372036854775807) (hn : zs.length ≤ 1048576) (hz : ∀ z ∈ zs, z.length ≤ 1048576) :
    Calls Try.prog 4 #[.slice a zs.length cap] w fun e w' => e = .returned (.bool true) ∧ Below w.heap.size w w' := by
  have cl := Gram.lives_any
  have HH : Hid (∀ wr : World, Below w.heap.size w wr → HasStrs wr (.slice a zs.length cap) zs) := fun wr hb => hh.keep hb
  obtain ⟨n, hnd⟩ : ∃ n, n = zs.length := ⟨_, rfl⟩
  have HN : Hid (n = zs.length) := hnd
  rw [← hnd] at HH hc1 hn ⊢
  have hni : (n : Int) ≤ 1048576 := by omega
  have HL : Hid (∀ k, k ≤ n → (catK zs k).length ≤ 1048576 * k) := fun k hk => catK_len zs hz k (by omega)
  have HSD : Hid (∀ k (hk : k < zs.length), feedC zeroC (catK zs (k + 1)) = ((feedC (feedC zeroC (catK zs k)).1 zs[k]).1, (feedC zeroC (catK zs k)).2 ++ (feedC (feedC zeroC (catK zs k)).1 zs[k]).2)) := fun k hk => by rw [catK_succ zs k hk, feed_app]
  have HCS : Hid (∀ k (hk : k < zs.length), (⟨(catK zs k).toArray⟩ : ByteArray) ++ ⟨(zs[k]).toArray⟩ = ⟨(catK zs (k + 1)).toArray⟩) := fun k hk => by rw [catK_succ zs k hk, bytes_cat]
  have HFD : Hid (∀ d : Ct, okC d = true → ∀ (W : World) (l : List UInt8), l.length ≤ 1099511627776 → Calls Try.prog 10 #[ctV d, .string ⟨l.toArray⟩] W fun e w' => ∃ V, e = .returned (.tuple #[ctV (feedC d l).1, V, .int .i64 0]) ∧ (HasPcs w' V (feedC d l).2 ∧ NewIn W V) ∧ Below W.heap.size W w') := fun d hd W l hl => by
    have hrl := rest_le hd
    have hsk := ((okC_iff d).1 hd).2.1
    have := feedN_any d l W ⟨by omega, by omega, by omega⟩ hl
    rw [(fed_ok hd l).1, (fed_ok hd l).2] at this
    exact this
  have HOKD : Hid (∀ k, okC (feedC zeroC (catK zs k)).1 = true ∧ (feedC zeroC (catK zs k)).2.length ≤ (catK zs k).length) := fun k => ⟨feed_ok _ (by decide), feed_len _ _⟩
  have H0 : Hid (feedC zeroC (catK zs 0) = (zeroC, []) ∧ catK zs 0 = []) := by exact ⟨by rw [show catK zs 0 = [] from rfl]; rfl, rfl⟩
  have HP : Hid (∀ (k : Nat) (W : World), k ≤ n → Calls Try.prog 12 #[.string ⟨(catK zs k).toArray⟩] W fun e w' => ∃ V, e = .returned V ∧ Gram.HasPcs w' V (feedC zeroC (catK zs k)).2 ∧ Below W.heap.size W w') := fun k W hk => by
    have h1 := HL.out k hk
    have h2 := Gram.pieces_le (catK zs k)
    have := Gram.piecesR_any (catK zs k) W (by omega) (by omega)
    rw [← Gram.feed_pieces] at this
    refine this.mono ?_
    rintro e w' ⟨V, e1, e2, _, e3⟩
    exact ⟨V, e1, e2, e3⟩
  have HX : Hid (∀ (l : List PcT) (W : World) (u v : Value), HasPcs W u l → Gram.HasPcs W v l → Calls Try.prog 11 #[u, v] W fun r w' => r = .returned (.bool true) ∧ Below W.heap.size W w') := fun l W u v h1 h2 => Gram.same12_any l u v W h1 h2
  clear hh hnd
  go_enter Try.func4, Try.ntmps4
  go_wp2_with fail
  go_at_call 9; refine (cl _).mono ?_; rintro e w1 ⟨rfl, hb1⟩
  clear cl
  go_upto_region 4 with fail
  obtain ⟨Y, hY⟩ : ∃ Y, Y = w1.alloc (.cells #[.string ⟨#[]⟩, .bool false, .int .i64 0] 30) := ⟨_, rfl⟩
  have hA : At w Y w1.heap.size zeroC (.slice none 0 0) [] := ⟨by rw [hY]; exact RowAt.new _ _ _, World.ownsRow_nil _ _ _ _, by rw [hY]; exact below_new hb1 _, by rw [hY]; simp, hb1.size⟩
  rw [← hY]
  clear hY hb1
  generalize w1.heap.size = g at hA ⊢
  have HA : Hid (At w Y g zeroC (.slice none 0 0) []) := hA
  clear hA
  go_wp2_with fail
  go_loopw [4, 5, 15] (fun s4 s5 i wr => ∃ (k : Nat) (o : Option Addr) (cp : Nat), k ≤ n ∧ i = .int .i64 k ∧ s5 = .string ⟨(catK zs k).toArray⟩ ∧ s4 = .slice o (feedC zeroC (catK zs k)).2.length cp ∧ Hid (At w wr g (feedC zeroC (catK zs k)).1 (.slice o (feedC zeroC (catK zs k)).2.length cp) (feedC zeroC (catK zs k)).2)) (fun _ _ i _ => n - (intOf i).toNat)
  case atStart => exact ⟨0, none, 0, Nat.zero_le _, rfl, by rw [H0.out.2], by rw [H0.out.1]; rfl, by rw [H0.out.1]; exact HA.out⟩
  case round =>
    obtain ⟨k, o, cp, hk, rfl, rfl, rfl, HI⟩ := hrel
    have hI := HI.out
    have hLk := HL.out k hk
    obtain ⟨y0, y1, y2, yf, hgl⟩ := hI.cells
    have hodk := HOKD.out k
    by_cases hlt : k < n
    · have hkz : k < zs.length := by rw [← HN.out]; exact hlt
      obtain ⟨b1, i1, rfl, hb1, a1⟩ := HasStrs.cell (HH.out _ hI.bl) k hkz
      have hzk := hz zs[k] (List.getElem_mem hkz)
      have hcs := HCS.out k hkz
      have HS := HSD.out k hkz
      have HS2 : Hid (feedC zeroC (catK zs (k + 1)) = _) := HS
      have hod2 := HOKD.out (k + 1)
      have hL2 := HL.out (k + 1) (by omega)
      clear HS HCS HSD HOKD HL HP HX
      generalize hW2 : catK zs (k + 1) = wh2 at *
      have HW2 : Hid (catK zs (k + 1) = wh2) := hW2
      clear hW2
      generalize catK zs k = wh at *
      unfold strV at *
      generalize zs[k] = z at *
      generalize hF2 : feedC zeroC wh2 = F2 at *
      have HFF : Hid (feedC zeroC wh2 = F2) := hF2
      clear hF2
      generalize feedC zeroC wh = F at *
      obtain ⟨⟨rd, bd, sd⟩, ps⟩ := F
      simp only at *
      have cfd := HFD.out ⟨rd, bd, sd⟩ hodk.1 wr z (by omega)
      have hki : (k : Int) < (n : Int) := by omega
      have hzi : (z.length : Int) ≤ 1048576 := by omega
      have hwi : (wh.length : Int) ≤ 1099511627776 := by omega
      have hwz : ¬ 9223372036854775807 < wh.length + z.length := by omega
      generalize hFz : feedC ⟨rd, bd, sd⟩ z = G at *
      obtain ⟨⟨r2, b2, s2⟩, qs⟩ := G
      have HF2 : Hid (F2 = (⟨r2, b2, s2⟩, ps ++ qs)) := HS2.out
      have hpq : (ps ++ qs).length ≤ wh2.length := by have := hod2.2; rw [HF2.out] at this; exact this
      clear HS2 hFz
      unfold ctV strV at cfd
      simp only at cfd
      go_wp2_with fail
      go_at_call 10; refine cfd.mono ?_; rintro e w2 ⟨V2, rfl, ⟨hp2, hnw⟩, hb2⟩
      have hI2 := hI.below hb2
      have hgne : ∀ a n c, V2 = .slice (some a) n c → a.block ≠ g := fun a n c e => by have := hnw a n c e; omega
      obtain ⟨o2, cp2, rfl, hc3, hc4⟩ := HasRow.slice hp2
      go_upto_region 10 with fail
      obtain ⟨Z, hZ⟩ : ∃ Z, Z = w2.alloc (.cells #[.string ⟨r2.toArray⟩, .bool b2, .int .i64 s2] 30) := ⟨_, rfl⟩
      have hbx : Below w2.heap.size w2 Z := by rw [hZ]; exact below_new (Below.refl _ _) _
      have rz : RowAt Z w2.heap.size [.string ⟨r2.toArray⟩, .bool b2, .int .i64 s2] 30 := by rw [hZ]; exact RowAt.new _ _ _
      rw [← hZ]
      have hI3 := (hI2.below hbx).below (below_drew (Below.refl _ _))
      have hp3 := (hp2.keep hbx).keep (below_drew (Below.refl _ _))
      have rz3 := rz.below (below_drew (Below.refl _ _))
      obtain ⟨z0, z1, z2, zf⟩ := cells3 rz
      have hgg : w2.heap.size ≠ g := by have := hI2.sz; omega
      clear hZ hI2 hp2 hbx hb2 hI y0 y1 y2 yf hgl HI
      generalize w2.heap.size = g2 at rz rz3 z0 z1 z2 zf hgg ⊢
      have hgg2 : g ≠ g2 := fun e => hgg e.symm
      obtain ⟨o5, cp5, w5, hrun, hI5, rz5⟩ := hI3.app hp3 rz3 (by rw [← List.length_append]; omega)
      have hI6 := hI5.store ⟨r2, b2, s2⟩
      have HI6 : Hid (At w _ g ⟨r2, b2, s2⟩ (.slice o5 (ps ++ qs).length cp5) (ps ++ qs)) := hI6
      obtain ⟨q0, q1, q2, qf⟩ := cells3 rz5
      obtain ⟨y0, y1, y2, yf, hgl⟩ := hI5.cells
      unfold strV at HI6 y0
      simp only at HI6
      clear hI3 hp3 rz3 rz5 hI5 hI6 rz
      go_wp2_with fail
      go_region_held (fun w' => w'.cell? ⟨g2, 0, none⟩ = some (.string ⟨r2.toArray⟩) ∧ w'.cell? ⟨g2, 1, none⟩ = some (.bool b2) ∧ w'.cell? ⟨g2, 2, none⟩ = some (.int .i64 s2)) (go_keep) (fail)
      go_wp2_with fail
      go_roundw
      case rel => exact ⟨k + 1, o5, cp5, by omega, by go_num, by rw [HW2.out], by rw [HW2.out, HFF.out, HF2.out]; simp, by rw [HW2.out, HFF.out, HF2.out]; exact HI6.out⟩
      case measure => simp [intOf]; omega
    · have hkn : decide ((k : Int) < (n : Int)) = false := decide_eq_false (by omega)
      have cp0 := fun W : World => HP.out k W hk
      have cx := HX.out (feedC zeroC (catK zs k)).2
      have hs4 : HasPcs wr (.slice o (feedC zeroC (catK zs k)).2.length cp) (feedC zeroC (catK zs k)).2 := hasRow_own hI.ow
      have hB := hI.bl
      clear HP HX HSD HCS HFD HOKD H0 HL hodk hI HI hLk y0 y1 y2 yf hgl HA
      generalize (feedC zeroC (catK zs k)).2 = ps at *
      generalize (⟨(catK zs k).toArray⟩ : ByteArray) = S at *
      go_wp2_with fail
      go_at_call 12; refine (cp0 _).mono ?_; rintro e w3 ⟨V, rfl, hs5, hb3⟩
      have hs6 := hs4.keep hb3
      replace hB := below2 hB hb3
      clear hb3 hs4
      go_wp2_with fail
      go_at_call 11; refine (cx _ _ _ hs6 hs5).mono ?_; rintro e w4 ⟨rfl, hb4⟩
      go_wp2_with fail
      go_ret
      exact ⟨rfl, below2 hB hb4⟩
theorem walk (a1 : Option Addr) (len1 cap1 : Nat) (z1 : List (List UInt8)) (w : World) (b1 : IsStrsS w a1 len1 cap1 z1 ∧ z1.length ≤ 1048576 ∧ ∀ z ∈ z1, z.length ≤ 1048576) :
    Calls Try.prog 4 #[.slice a1 len1 cap1] w fun e w' => e = .returned (.bool true) ∧ Below w.heap.size w w' := by
  obtain ⟨⟨h1, h2, h3, h4, _⟩, h5, h6⟩ := b1
  subst h2
  exact walk0 a1 cap1 z1 w h1 h3 h4 h5 h6

set_option maxRecDepth 100000 in
theorem contract (H : Type) (enc : TypeId × Value → H) (W : World) (base : Nat) (args : Array Value) (ds gs : List (DataW H)) (before : List MemPlace)
    (hval0 : ∀ (j : Nat) t v, Try.f4.params[j]? = some t → args[j]? = some v → Value.okWide Try.prog W .any base t v)
    (hW : DataW.Whole enc Try.prog Try.f4.params.toList Rows.gramCutSpec.vars false W args.toList ds gs before) (hk : Rows.uptoSmall H (ds ++ gs) = true)
    (hsz0 : (DataW.weightsEach Try.prog (Try.f4.params.toList ++ Rows.gramCutSpec.plain.varTypes Try.prog) (ds ++ gs)).all (· ≤ reachBytes) = true) :
    Calls Try.prog 4 args W fun e W' => ∃ v, e = .returned v ∧ Rows.gramCutSpec.post enc Try.prog Try.f4 false true false false W args v W' := by
  have hsz : (DataW.weightsEach Try.prog (Try.f4.params.toList ++ Rows.gramCutSpec.plain.varTypes Try.prog) (ds ++ gs)).all (· ≤ reachBytes) = true := hsz0
  clear hsz0
  have hval : ∀ (j : Nat) t v, Try.f4.params[j]? = some t → args[j]? = some v → Value.okWide Try.prog W .any base t v := hval0
  have hW' := hW
  obtain ⟨p, q, hA0, hV, rfl, hfz, hnd⟩ := hW
  have hA : DataW.TrodAll enc Try.prog W 0 (fun _ => true) true Try.f4.params.toList args.toList ds p := hA0
  rw [Try.params4] at hA hval hsz
  obtain ⟨v0, vs0, d0, ds0, p0, q0, hargs, rfl, rfl, h0, r0⟩ := trodAll_cons hA
  obtain ⟨rfl, rfl, rfl⟩ := trodAll_nil r0
  obtain rfl : args = #[v0] := by cases args; simp_all
  obtain ⟨rfl, rfl⟩ := trodVars_none hV
  obtain ⟨a0, len0, cap0, rfl⟩ := okWide_slice Try.underlying28 (hval 0 28 v0 rfl rfl)
  have k0 := h0
  have lt0 : ∀ x ∈ p0, x.block < W.heap.size := by obtain ⟨m, hm⟩ := k0; exact DataW.trod_lt m _ _ _ hm
  obtain ⟨z0, b0⟩ : ∃ zs, IsStrsS W a0 len0 cap0 zs ∧ zs.length ≤ 1048576 ∧ ∀ z ∈ zs, z.length ≤ 1048576 := by
    obtain ⟨fuel, hf⟩ := h0
    rcases Go.Deep.open_strs Try.underlying28 Try.underlying9 (by kernel_rfl) hf with ⟨hcs, _⟩ | ⟨x, l, c, m, Sx, hcs, _, hl, hm, hmm, hx, hr⟩
    · simp [Value.cells] at hcs
      obtain ⟨rfl, rfl, rfl⟩ := hcs
      exact ⟨[], isStrsS_nil W, by simp, by simp⟩
    · simp [Value.cells] at hcs
      obtain ⟨rfl, rfl, rfl⟩ := hcs
      have hs := sized_slice hsz (j := 0) (t := 28) (e := 9) rfl (congrArg some (Prod.mk.inj hx).1) Try.underlying28
      rw [show Try.prog.bytesOf 9 = 16 by kernel_rfl] at hs
      have hbk := bulk_row hk (j := 0) (congrArg some (Prod.mk.inj hx).1)
      have hbt := fun i s hi => bulk_text hk (j := 0) (congrArg some (Prod.mk.inj hx).1) (i := i) (s := s) hi
      refine ⟨_, isStrsS_of hl hm (fun i hi => hr i (by rw [hmm]; split <;> omega)) (by simpa [reachBytes] using Nat.le_trans (Nat.mul_le_mul_right 16 (Nat.le_add_right _ _)) hs), by simpa using hbk, fun z hz => ?_⟩
      obtain ⟨i, hi, rfl⟩ := List.mem_map.1 hz
      exact hbt i _ (by rw [List.getElem?_map, List.getElem?_range (List.mem_range.1 hi)]; rfl)
  clear hA0 hval0
  refine (walk a0 len0 cap0 z0 W b0).mono fun e W' ⟨he, bel⟩ => ?_
  subst he
  exact ⟨_, rfl, _, _, _, [], _, [], hW', trodAll_mk1 (shut_bool Try.underlying4 _), (trodAll_cons_mk (Below.trod laidOut (by kernel_rfl) (of_decide_eq_true (by kernel_rfl)) k0 bel lt0) trodAll_mk0), rfl, bel.frame _, fun h => by cases h⟩
set_option maxRecDepth 100000 in
theorem lifted (os : Os) (started : os.Started) (H : Type) (enc : TypeId × Value → H) (F : Stop.Interp) :
    ReturnsInHanded {} Try.checked os 4 .any ((Rows.OpenSpec.upto Rows.gramCutSpec).pre6 enc Try.prog Try.f4 Rows.gramCutUptoRow.domain false) (((Rows.OpenSpec.upto Rows.gramCutSpec).at F).post enc Try.prog Try.f4 false true false false) := by
  refine returnsInHanded_of_cond_sized (C := Try.checked) (s := Rows.OpenSpec.upto Rows.gramCutSpec) (k := Rows.uptoSmall) rfl own started (by kernel_rfl) Try.func4
    (OpenSpec.witness (enc := enc) (C := Try.checked) (s := Rows.OpenSpec.upto Rows.gramCutSpec) (k := Rows.uptoSmall) rfl false ⟨#[], #[.slice none 0 0], []⟩ 8 (by kernel_rfl) (by kernel_rfl) (by kernel_rfl)
      (x := ([.nil], [], [])) (by kernel_rfl) rfl (by kernel_rfl)) ?_
  intro W base args ds gs before hval hW _ hk hsz _
  exact contract H enc W base args ds gs before hval hW hk hsz

theorem over : Rows.gramCutUptoRow.holds Try.pinned (Rows.OpenSpec.upto Rows.gramCutSpec) :=
  OpenClaim.holds_of_cond 4 Try.f4 rfl rfl rfl rfl rfl rfl rfl ⟨rfl, rfl, rfl, rfl, rfl⟩ rfl rfl rfl rfl rfl (by kernel_rfl) Try.func4 (by kernel_rfl)
    (of_decide_eq_true (by kernel_rfl)) (by unfold Func.isWrapper; first | (rw [if_pos (by decide +kernel)]; kernel_rfl) | (rw [if_neg (by decide +kernel)]; exact ⟨rfl, rfl⟩))
    (fun os started H enc _ F => lifted os started H enc F)
end gramCut
theorem gcut_holds : Rows.GramCutUptoSaid := gramCut.over
#print axioms gcut_holds
end Go.Proofs.Ytopabkkapbaibaa
