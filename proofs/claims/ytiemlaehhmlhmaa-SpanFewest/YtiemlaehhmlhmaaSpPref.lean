/- What span.Prefixes returns. -/
import Derived.Test.YtiemlaehhmlhmaaSpWid
import Derived.Test.YtiemlaehhmlhmaaAddrEql
import Derived.Deep.AppendLies
set_option linter.unusedVariables false
namespace Go.Proofs.Ytiemlaehhmlhmaa.Sp
open Go.RowKit Go.Shelf
open Go.Proofs.Ytiemlaehhmlhmaa.Lk (HasRow hasRow_own addr_add)
open Go.Proofs.Ytiemlaehhmlhmaa.Addr (Pf pfV okP lastN lastE wideN rightB hiN loN adV cmpN nextE next_any ad_eql ad_guard RowAt below2 below_drew below_new bset RowAt.lt RowAt.cell RowAt.frozen RowAt.below RowAt.drew RowAt.new RowAt.alloc RowAt.gkeep cells2 cells4 results_cell gset gbelow grefl gfinal)
attribute [-go_sem] Builtin.append_
def prefS (six : Bool) : Nat → Nat → Nat → List Pf
  | 0, _, _ => []
  | n + 1, f, t => ⟨six, f, (wid six f t : Int)⟩ :: (if lastN ⟨six, f, (wid six f t : Int)⟩ = t then [] else prefS six n (lastN ⟨six, f, (wid six f t : Int)⟩ + 1) t)
def prefL (six : Bool) (l : List Sp) : List Pf := l.flatMap (fun s => prefS six 4097 s.1 s.2)
def prefE (six : Bool) (l : List Sp) : List Pf × Int := if okB six l then (if 4096 < (prefL six l).length then ([], 11) else (prefL six l, 0)) else ([], 2)
theorem wid_ok {six : Bool} {f t : Nat} (hft : f ≤ t) (ht : t ≤ topN six) : okP ⟨six, f, (wid six f t : Int)⟩ = true ∧ f ≤ lastN ⟨six, f, (wid six f t : Int)⟩ ∧ lastN ⟨six, f, (wid six f t : Int)⟩ ≤ t := by
  have h : wT six f t (wid six f t) = true := by
    unfold wid
    cases hc : (List.range (wideN six + 1)).find? (fun k => wT six f t k) with
    | none =>
      have := List.find?_eq_none.1 hc (wideN six) (by simp)
      rw [wT_all hft ht] at this; simp at this
    | some k => exact List.find?_some hc
  unfold wT at h
  rw [Bool.and_eq_true, decide_eq_true_iff] at h
  exact ⟨h.1, by unfold lastN; exact Nat.le_add_right _ _, h.2⟩
def pfC (p : Pf) : List Value := [.bool p.six, .int .u64 (hiN p.n : Int), .int .u64 (loN p.n : Int), .int .i64 p.len]
def pfCs (l : List Pf) : List Value := l.flatMap pfC
theorem pfCs_app (a b : List Pf) : pfCs (a ++ b) = pfCs a ++ pfCs b := by unfold pfCs; rw [List.flatMap_append]
theorem pfCs_one (p : Pf) : pfCs [p] = pfC p := by simp [pfCs]
theorem pfCs_len (l : List Pf) : (pfCs l).length = l.length * 4 := by
  induction l with
  | nil => rfl
  | cons s l ih =>
    show (pfC s ++ pfCs l).length = _
    rw [List.length_append, ih, List.length_cons]
    show 4 + _ = _
    omega
theorem one_pfs (l : List Pf) : ∀ x ∈ pfCs l, x.oneCell' = true := by
  intro x hx
  obtain ⟨p, _, h⟩ := List.mem_flatMap.1 hx
  simp only [pfC, List.mem_cons, List.not_mem_nil, or_false] at h
  rcases h with rfl | rfl | rfl | rfl <;> rfl
def HasPfs (W : World) (v : Value) (l : List Pf) : Prop := HasRow W v 4 l.length (pfCs l)
theorem HasPfs.keep {W W' : World} {v : Value} {l : List Pf} (h : HasPfs W v l) (hb : Below W.heap.size W W') : HasPfs W' v l := HasRow.keep h hb
structure PfO (w W : World) (u : Value) (P : List Pf) : Prop where
  ou : W.ownsRow w.heap.size 27 4 u P.length (pfCs P)
  bl : Below w.heap.size w W
theorem PfO.below {w W W' : World} {u : Value} {P : List Pf} (h : PfO w W u P) (hb : Below W.heap.size W W') : PfO w W' u P := ⟨own_below h.ou hb, below2 h.bl hb⟩
theorem PfO.has {w W : World} {u : Value} {P : List Pf} (h : PfO w W u P) : HasPfs W u P := hasRow_own h.ou
theorem PfO.slice {w W : World} {u : Value} {P : List Pf} (h : PfO w W u P) : ∃ o c, u = .slice o P.length c := by
  obtain ⟨o, c, e, _, _⟩ := HasRow.slice h.has; exact ⟨o, c, e⟩
theorem info_P : (Try.prog.info? 27).map (fun i => (i.zero, i.size, i.bytes)) = some (some (.agg #[.bool false, .int .u64 0, .int .u64 0, .int .i64 0]), 4, 32) := by kernel_rfl
/-- a box of another type is no block of the row -/
theorem box_ne {W : World} {b : Nat} {cs : List Value} {t m e sz k : Nat} {v : Value} {xs : List Value} (h : RowAt W b cs t) (hr : W.ownsRow m e sz v k xs) (hne : t ≠ e) : some b ≠ v.ownBlock := by
  rcases hr.2 with ⟨rfl, _⟩ | ⟨g, cap, cur, rfl, hg, hgb, _⟩
  · simp [Value.ownBlock]
  · intro e2
    obtain rfl : b = g := by simpa [Value.ownBlock] using e2
    have h1 : W.heap[b]? = some (.cells cs.toArray t (0, 0)) := h
    rw [hgb] at h1
    injection h1 with h1
    injection h1 with _ h1
    exact hne h1.symm
theorem PfO.app {w W : World} {u : Value} {P : List Pf} (h : PfO w W u P) (p : Pf) (hb : P.length ≤ 1000000) :
    ∃ g cap w3, (∀ ty, (Builtin.append_ #[45, 45] ty #[u, .slice (some ⟨W.heap.size, 0, none⟩) 1 1]).run Try.prog (W.alloc (.cells #[.bool p.six, .int .u64 (hiN p.n : Int), .int .u64 (loN p.n : Int), .int .i64 p.len] 27)) = .ok (.slice (some ⟨g, 0, none⟩) (P.length + 1) cap) w3) ∧ PfO w w3 (.slice (some ⟨g, 0, none⟩) (P.length + 1) cap) (P ++ [p]) ∧ (∀ b cs t, RowAt W b cs t → t ≠ 27 → RowAt w3 b cs t) := by
  obtain ⟨i0, hi0, hz0, hz1, hz2⟩ := info_parts info_P
  have hk := h.below (below_new (Below.refl _ W) (.cells #[.bool p.six, .int .u64 (hiN p.n : Int), .int .u64 (loN p.n : Int), .int .i64 p.len] 27))
  have hr0 := RowAt.new W (pfC p) 27
  have hal : ∀ b cs t, RowAt W b cs t → RowAt (W.alloc (.cells #[.bool p.six, .int .u64 (hiN p.n : Int), .int .u64 (loN p.n : Int), .int .i64 p.len] 27)) b cs t := fun b cs t hh => hh.alloc _
  have hh := fun ty => run_append_lies (P := Try.prog) (w := W.alloc (.cells #[.bool p.six, .int .u64 (hiN p.n : Int), .int .u64 (loN p.n : Int), .int .i64 p.len] 27)) 45 ty w.heap.size 27 i0 (.agg #[.bool false, .int .u64 0, .int .u64 0, .int .i64 0]) 4 32 Try.underlying45 hi0 hz0 hz1 hz2 rfl (by decide) u P.length (pfCs P) hk.ou ⟨W.heap.size, 0, none⟩ 1 1 (pfC p) rfl
    (fun j y hj => by rw [addr_add, Nat.zero_add]; exact (hr0.cell j).trans hj) (by have := one_pfs [p]; rw [pfCs_one] at this; exact this) (by decide) (by unfold maxLen; omega) (by omega) hk.bl.size _ rfl
  obtain ⟨g, c2, w3, hrun, k1, k2, k3, k4⟩ := hh 0
  refine ⟨g, c2, w3, fun ty => hrun, ⟨by rw [show (P ++ [p]).length = P.length + 1 by simp, pfCs_app, pfCs_one]; exact k1, hk.bl.grown k2 hk.bl.size (fun k e => (hk.ou.lt k e).1)⟩, fun b cs t hr hne => (hal b cs t hr).gkeep k2 (box_ne (hal b cs t hr) hk.ou hne)⟩
theorem pref_long {six : Bool} {l : List Sp} {P rest : List Pf} {q f t : Nat} (h : prefL six l = P ++ (prefS six q f t ++ rest)) (hq : 4097 ≤ q + P.length) (hP : P.length = 4096) : 4096 < (prefL six l).length := by
  obtain ⟨m, rfl⟩ : ∃ m, q = m + 1 := ⟨q - 1, by omega⟩
  rw [h]
  unfold prefS
  simp only [List.length_append, List.length_cons]
  omega
theorem pref_step {six : Bool} {l : List Sp} {P rest : List Pf} {q f t : Nat} (h : prefL six l = P ++ (prefS six q f t ++ rest)) (hq : 4097 ≤ q + P.length) (hP : P.length < 4096) :
    (lastN ⟨six, f, (wid six f t : Int)⟩ = t → prefL six l = (P ++ [⟨six, f, (wid six f t : Int)⟩]) ++ rest) ∧ (¬ lastN ⟨six, f, (wid six f t : Int)⟩ = t → ∃ q', prefL six l = (P ++ [⟨six, f, (wid six f t : Int)⟩]) ++ (prefS six q' (lastN ⟨six, f, (wid six f t : Int)⟩ + 1) t ++ rest) ∧ 4097 ≤ q' + (P ++ [(⟨six, f, (wid six f t : Int)⟩ : Pf)]).length) := by
  obtain ⟨m, rfl⟩ : ∃ m, q = m + 1 := ⟨q - 1, by omega⟩
  unfold prefS at h
  constructor
  · intro hl
    rw [if_pos hl] at h
    rw [h]; simp
  · intro hl
    rw [if_neg hl] at h
    exact ⟨m, by rw [h]; simp, by rw [List.length_append, List.length_singleton]; omega⟩
theorem pref_drop {six : Bool} {l : List Sp} {k : Nat} (hk : k < l.length) : (l.drop k).flatMap (fun s => prefS six 4097 s.1 s.2) = prefS six 4097 l[k].1 l[k].2 ++ (l.drop (k + 1)).flatMap (fun s => prefS six 4097 s.1 s.2) := by
  rw [List.drop_eq_getElem_cons hk, List.flatMap_cons]
def lenV : Value → Nat
  | .slice _ n _ => n
  | _ => 0
set_option maxHeartbeats 8000000 in
set_option maxRecDepth 20000 in
theorem prefixes_any (six : Bool) (l : List Sp) (v : Value) (w : World) (h : HasSps w v l) (hf : ∀ s ∈ l, FitS s) :
    Calls Try.prog 26 #[.bool six, v] w fun e w' => ∃ u, e = .returned (.tuple #[u, .int .i64 (prefE six l).2]) ∧ PfO w w' u (prefE six l).1 := by
  obtain ⟨o, c, rfl, hc1, hc2⟩ := HasRow.slice h
  have cc := check_any six l _ w h hf
  have HE : Hid (∀ b, okB six l = b → (prefE six l) = if b then (if 4096 < (prefL six l).length then ([], 11) else (prefL six l, 0)) else ([], 2)) := fun b hb => by unfold prefE; rw [hb]
  generalize prefE six l = R at *
  cases hok : okB six l
  · have HV : Hid (R = ([], 2)) := HE.out false hok
    rw [hok] at cc
    unfold chk at cc
    simp only [Bool.false_eq_true, if_false] at cc
    generalize l.length = n at *
    clear h hf hok HE
    go_enter Try.func26, Try.ntmps26
    go_wp2_with fail
    go_step3
    go_wp2_with fail
    go_at_call 16; refine cc.mono ?_; rintro e w2 ⟨rfl, hb2⟩
    go_wp2_with fail
    (try rw [Exit.noGoto_ret])
    go_ret2
    exact ⟨.slice none 0 0, by rw [HV.out]; rfl, by rw [HV.out]; exact ⟨World.ownsRow_nil _ _ _ _, hb2⟩⟩
  · have okl := okB_iff.1 hok
    have HD : Hid (R = if 4096 < (prefL six l).length then ([], 11) else (prefL six l, 0)) := HE.out true hok
    have HL : Hid (Row six l) := okl.2
    have HR : Hid (∀ W, Below w.heap.size w W → HasSps W (.slice o l.length c) l) := fun W hq => h.keep hq
    rw [hok] at cc
    unfold chk at cc
    simp only [if_true] at cc
    obtain ⟨n, hn⟩ : ∃ n, n = l.length := ⟨_, rfl⟩
    have HN : Hid (l.length = n) := hn.symm
    rw [← hn] at hc1 cc HR ⊢
    have hni : (n : Int) ≤ 1024 := by have := okl.1; omega
    clear h hf hok okl HE hn
    go_enter Try.func26, Try.ntmps26
    go_wp2_with fail
    go_step3
    go_wp2_with fail
    go_at_call 16; refine cc.mono ?_; rintro e w2 ⟨rfl, hb2⟩
    clear cc
    go_wp2_with fail
    go_step3
    go_wp2_with fail
    have H0 : Hid (PfO w w2 (.slice none 0 0) [] ∧ prefL six l = [] ++ (l.drop 0).flatMap (fun s => prefS six 4097 s.1 s.2) ∧ ([] : List Pf).length ≤ 4096) := ⟨⟨World.ownsRow_nil _ _ _ _, hb2⟩, by simp [prefL], by simp⟩
    clear hb2
    go_loopw [7, 21] (fun u q wr => ∃ (k : Nat) (P : List Pf), k ≤ n ∧ q = .int .i64 k ∧ Hid (PfO w wr u P ∧ prefL six l = P ++ (l.drop k).flatMap (fun s => prefS six 4097 s.1 s.2) ∧ P.length ≤ 4096)) (fun _ q _ => n - (Go.RowKit.intOf q).toNat)
    case atStart => exact ⟨0, [], by omega, rfl, H0⟩
    case round =>
      clear H0
      obtain ⟨k, P, hk, rfl, HI⟩ := hrel
      obtain ⟨hO, hP, hPl⟩ := HI.out
      by_cases hlt : k < n
      · have hkz : k < l.length := by rw [HN.out]; exact hlt
        obtain ⟨g1, i1, rfl, hg1, a0, a1, a2, a3⟩ := HasSps.cell (HR.out _ hO.bl) k hkz
        have hki : (k : Int) < (n : Int) := by omega
        have hsk := row_at HL.out hkz
        rw [pref_drop hkz] at hP
        obtain ⟨rest, hrest⟩ : ∃ r, r = (l.drop (k + 1)).flatMap (fun s => prefS six 4097 s.1 s.2) := ⟨_, rfl⟩
        have HREST : Hid (rest = (l.drop (k + 1)).flatMap (fun s => prefS six 4097 s.1 s.2)) := hrest
        rw [← hrest] at hP
        generalize l[k] = s0 at *
        obtain ⟨f0, t⟩ := s0
        simp only at a0 a1 a2 a3 hsk hP
        obtain ⟨X, hX⟩ : ∃ X, X = (wr.alloc (.cells #[.int .u64 (hiN f0 : Int), .int .u64 (loN f0 : Int), .int .u64 (hiN t : Int), .int .u64 (loN t : Int)] 34)).alloc (.cells #[.int .u64 (hiN f0 : Int), .int .u64 (loN f0 : Int)] 25) := ⟨_, rfl⟩
        have hbX : Below wr.heap.size wr X := by rw [hX]; exact below_new (below_new (Below.refl _ _) _) _
        have r9 : RowAt X wr.heap.size [.int .u64 (hiN f0 : Int), .int .u64 (loN f0 : Int), .int .u64 (hiN t : Int), .int .u64 (loN t : Int)] 34 := by rw [hX]; exact (RowAt.new _ _ _).alloc _
        have r10 : RowAt X (wr.heap.size + 1) [.int .u64 (hiN f0 : Int), .int .u64 (loN f0 : Int)] 25 := by
          have h := RowAt.new (wr.alloc (.cells #[.int .u64 (hiN f0 : Int), .int .u64 (loN f0 : Int), .int .u64 (hiN t : Int), .int .u64 (loN t : Int)] 34)) [.int .u64 (hiN f0 : Int), .int .u64 (loN f0 : Int)] 25
          rw [World.size_alloc] at h
          rw [hX]; exact h
        obtain ⟨x1, hx1⟩ : ∃ q, q = hiN f0 := ⟨_, rfl⟩
        obtain ⟨x2, hx2⟩ : ∃ q, q = loN f0 := ⟨_, rfl⟩
        obtain ⟨ta, hta⟩ : ∃ q, q = hiN t := ⟨_, rfl⟩
        obtain ⟨tb, htb⟩ : ∃ q, q = loN t := ⟨_, rfl⟩
        have HT : Hid (hiN t = ta ∧ loN t = tb) := ⟨hta.symm, htb.symm⟩
        have hw0 : w.heap.size ≤ wr.heap.size + 1 := by have := hO.bl.size; omega
        obtain ⟨g9, hg9⟩ : ∃ q, q = wr.heap.size := ⟨_, rfl⟩
        obtain ⟨g10, hg10⟩ : ∃ q, q = wr.heap.size + 1 := ⟨_, rfl⟩
        rw [← hg9] at r9
        rw [← hg10] at r10 hw0
        have r9x : RowAt X g9 [.int .u64 (x1 : Int), .int .u64 (x2 : Int), .int .u64 (ta : Int), .int .u64 (tb : Int)] 34 := by rw [hx1, hx2, hta, htb]; exact r9
        have HI0 : Hid (PfO w X u7 P ∧ prefL six l = P ++ (prefS six 4097 f0 t ++ rest) ∧ 4097 ≤ 4097 + P.length ∧ P.length ≤ 4096 ∧ f0 ≤ t ∧ RowAt X g9 [.int .u64 (x1 : Int), .int .u64 (x2 : Int), .int .u64 (ta : Int), .int .u64 (tb : Int)] 34 ∧ RowAt X g10 [.int .u64 (hiN f0 : Int), .int .u64 (loN f0 : Int)] 25 ∧ w.heap.size ≤ g10) := ⟨hO.below hbX, hP, by omega, hPl, hsk.1, r9x, r10, hw0⟩
        have htt : t ≤ topN six := hsk.2
        have HTOP : Hid (t ≤ topN six) := htt
        obtain ⟨o7, c7, rfl⟩ := hO.slice
        go_wp2_with fail
        rw [← hX, ← hg10, ← hg9]
        clear hX hg9 hg10 hbX r9 r10 r9x hO hP hPl hsk HI a0 a1 a2 a3 hg1 hx1 hx2 hta htb htt
        obtain ⟨wA, hwA⟩ : ∃ wA, wA = wr := ⟨_, rfl⟩
        subst hwA
        go_loopw [7, 10] (fun u y wi => ∃ (P : List Pf) (f q g10 : Nat), y = .pointer (some ⟨g10, 0, none⟩) ∧ Hid (PfO w wi u P ∧ prefL six l = P ++ (prefS six q f t ++ rest) ∧ 4097 ≤ q + P.length ∧ P.length ≤ 4096 ∧ f ≤ t ∧ RowAt wi g9 [.int .u64 (x1 : Int), .int .u64 (x2 : Int), .int .u64 (ta : Int), .int .u64 (tb : Int)] 34 ∧ RowAt wi g10 [.int .u64 (hiN f : Int), .int .u64 (loN f : Int)] 25 ∧ w.heap.size ≤ g10)) (fun u _ _ => 4097 - lenV u)
        case atStart => exact ⟨P, f0, 4097, g10, rfl, HI0⟩
        case round =>
          clear HI0 hw0
          obtain ⟨P, f, q, g10, rfl, HI⟩ := hrel
          obtain ⟨hO, hP, hq, hPl, hft, r9, r10, hw10⟩ := HI.out
          clear HI
          obtain ⟨wi, hwi⟩ : ∃ W, W = wr := ⟨_, rfl⟩
          subst hwi
          obtain ⟨o3, c3, rfl⟩ := hO.slice
          by_cases hl : P.length = 4096
          · have HV : Hid (R = ([], 11)) := by show _ = _; rw [HD.out, if_pos (pref_long hP hq hl)]
            have hbl := hO.bl
            have hq1 : ((P.length : Int) == 4096) = true := by rw [hl]; rfl
            have hq2 : (P.length == 4096) = true := by rw [hl]; rfl
            clear HD hO hP hq r9 r10
            rw [hl]
            go_wp2_with fail
            (try rw [Exit.noGoto_ret])
            go_ret2
            exact ⟨.slice none 0 0, by rw [HV.out]; rfl, by rw [HV.out]; exact ⟨World.ownsRow_nil _ _ _ _, hbl⟩⟩
          · have hq1 : ((P.length : Int) == 4096) = false := by
              rw [beq_eq_false_iff_ne]; omega
            have hq2 : (P.length == 4096) = false := by
              rw [beq_eq_false_iff_ne]; omega
            have hwid := wid_ok hft HTOP.out
            have hst := pref_step hP hq (by omega)
            have htb2 := top_big six
            have cw := fun W => widest_any six f t W hft HTOP.out
            obtain ⟨wk, hwk⟩ : ∃ q, q = wid six f t := ⟨_, rfl⟩
            rw [← hwk] at cw hwid hst
            obtain ⟨la, hla⟩ : ∃ q, q = lastN ⟨six, f, (wk : Int)⟩ := ⟨_, rfl⟩
            rw [← hla] at cw hwid hst
            have HST1 : Hid (la = t → prefL six l = (P ++ [⟨six, f, (wk : Int)⟩]) ++ rest) := hst.1
            have HST2 : Hid (¬ la = t → ∃ q', prefL six l = (P ++ [⟨six, f, (wk : Int)⟩]) ++ (prefS six q' (la + 1) t ++ rest) ∧ 4097 ≤ q' + (P ++ [(⟨six, f, (wk : Int)⟩ : Pf)]).length) := hst.2
            have HLA : Hid (la ≤ t) := hwid.2.2
            have heq := fun W => ad_eql la t W
            have hgd := ad_guard
            have cx := fun W => next_any six la W (by have := hwid.2.2; have := HTOP.out; omega)
            have HNX : Hid (¬ la = t → nextE six la = (la + 1, 0)) := fun h => by
              have h1 := hwid.2.2
              have h2 := HTOP.out
              unfold nextE
              rw [if_pos ((top_lt _ _).2 (by omega)), if_neg (by unfold topN at h2; omega)]
            have HPL : Hid (P.length ≤ 4096 ∧ ¬ P.length = 4096) := ⟨hPl, hl⟩
            clear hst hwid hwk hla htb2 hP hq hft
            unfold pfV at cw
            unfold adV at cw heq cx
            simp only at cw
            obtain ⟨fa, hfa⟩ : ∃ q, q = hiN f := ⟨_, rfl⟩
            obtain ⟨fb, hfb⟩ : ∃ q, q = loN f := ⟨_, rfl⟩
            obtain ⟨la1, hla1⟩ : ∃ q, q = hiN la := ⟨_, rfl⟩
            obtain ⟨la2, hla2⟩ : ∃ q, q = loN la := ⟨_, rfl⟩
            rw [← hfa, ← hfb] at r10
            simp only [HT.out.1, HT.out.2, ← hfa, ← hfb, ← hla1, ← hla2] at cw heq cx
            have HPF : Hid (hiN f = fa ∧ loN f = fb) := ⟨hfa.symm, hfb.symm⟩
            clear hfa hfb hla1 hla2
            obtain ⟨s0, s1, s2, s3, sf⟩ := cells4 r9
            obtain ⟨z0, z1, zf⟩ := cells2 r10
            go_wp2_with fail
            go_at_call 55; refine (cw _).mono ?_; rintro e w4 ⟨rfl, hb⟩
            replace hO := hO.below hb
            replace r9 := r9.below hb
            replace r10 := r10.below hb
            clear s0 s1 s2 s3 sf z0 z1 zf hb cw
            obtain ⟨Y, hY⟩ : ∃ Y, Y = (w4.alloc (.cells #[.bool six, .int .u64 (fa : Int), .int .u64 (fb : Int), .int .i64 (wk : Int)] 27)).alloc (.cells #[.int .u64 (la1 : Int), .int .u64 (la2 : Int)] 25) := ⟨_, rfl⟩
            have hbY : Below w4.heap.size w4 Y := by rw [hY]; exact below_new (below_new (Below.refl _ _) _) _
            have r11 : RowAt Y w4.heap.size [.bool six, .int .u64 (fa : Int), .int .u64 (fb : Int), .int .i64 (wk : Int)] 27 := by rw [hY]; exact (RowAt.new _ _ _).alloc _
            have r12 : RowAt Y (w4.heap.size + 1) [.int .u64 (la1 : Int), .int .u64 (la2 : Int)] 25 := by
              have h := RowAt.new (w4.alloc (.cells #[.bool six, .int .u64 (fa : Int), .int .u64 (fb : Int), .int .i64 (wk : Int)] 27)) [.int .u64 (la1 : Int), .int .u64 (la2 : Int)] 25
              rw [World.size_alloc] at h
              rw [hY]; exact h
            go_upto_region 12 with fail
            rw [← hY]
            replace hO := hO.below hbY
            replace r9 := r9.below hbY
            replace r10 := r10.below hbY
            clear hY hbY
            obtain ⟨g11, hg11⟩ : ∃ q, q = w4.heap.size := ⟨_, rfl⟩
            obtain ⟨g12, hg12⟩ : ∃ q, q = w4.heap.size + 1 := ⟨_, rfl⟩
            rw [← hg12]
            rw [← hg11] at r11 ⊢
            rw [← hg12] at r12
            clear hg11 hg12
            obtain ⟨p0, p1, p2, p3, pf⟩ := cells4 r11
            obtain ⟨g3, cap3, w5, hrun, hO5, hkr⟩ := hO.app ⟨six, f, (wk : Int)⟩ (by omega)
            replace r9 := hkr _ _ _ r9 (by decide)
            replace r10 := hkr _ _ _ r10 (by decide)
            replace r12 := hkr _ _ _ r12 (by decide)
            simp only [HPF.out.1, HPF.out.2] at hrun
            clear hkr r11 hO
            obtain ⟨pl, hpl⟩ : ∃ q, q = P.length + 1 := ⟨_, rfl⟩
            have HPL2 : Hid (pl = P.length + 1) := hpl
            rw [← hpl] at hrun hO5
            clear hpl
            go_upto_region 13 with fail
            clear hrun p0 p1 p2 p3 pf
            have hlen : (P ++ [(⟨six, f, (wk : Int)⟩ : Pf)]).length ≤ 4096 := by rw [List.length_append, List.length_singleton]; have := HPL.out; omega
            by_cases hlt2 : la = t
            · have HF : Hid (PfO w w5 (.slice (some ⟨g3, 0, none⟩) pl cap3) (P ++ [⟨six, f, (wk : Int)⟩]) ∧ prefL six l = (P ++ [⟨six, f, (wk : Int)⟩]) ++ (l.drop (k + 1)).flatMap (fun s => prefS six 4097 s.1 s.2) ∧ (P ++ [(⟨six, f, (wk : Int)⟩ : Pf)]).length ≤ 4096) := ⟨hO5, by rw [← HREST.out]; exact HST1.out hlt2, hlen⟩
              have hde : decide (la = t) = true := decide_eq_true hlt2
              rw [hde] at heq
              obtain ⟨s0, s1, s2, s3, sf⟩ := cells4 r9
              obtain ⟨z0, z1, zf⟩ := cells2 r12
              clear hO5 HST1 HST2 HNX r10 cx hde hlt2 hlen
              go_wp2_with fail
              go_roundw
              case rel => exact ⟨k + 1, _, by omega, by go_num, HF⟩
              case measure => simp [Go.RowKit.intOf]; omega
            · have hnx := HNX.out hlt2
              obtain ⟨q', hP2, hq2'⟩ := HST2.out hlt2
              rw [hnx] at cx
              have hde : decide (la = t) = false := decide_eq_false hlt2
              rw [hde] at heq
              have hlat : la + 1 ≤ t := by have := HLA.out; omega
              simp only at cx
              obtain ⟨e1, he1⟩ : ∃ q, q = hiN (la + 1) := ⟨_, rfl⟩
              obtain ⟨e2, he2⟩ : ∃ q, q = loN (la + 1) := ⟨_, rfl⟩
              rw [← he1, ← he2] at cx
              have HEE : Hid (hiN (la + 1) = e1 ∧ loN (la + 1) = e2) := ⟨he1.symm, he2.symm⟩
              have HP2 : Hid (prefL six l = (P ++ [⟨six, f, (wk : Int)⟩]) ++ (prefS six q' (la + 1) t ++ rest) ∧ 4097 ≤ q' + (P ++ [(⟨six, f, (wk : Int)⟩ : Pf)]).length ∧ (P ++ [(⟨six, f, (wk : Int)⟩ : Pf)]).length ≤ 4096 ∧ la + 1 ≤ t) := ⟨hP2, hq2', hlen, hlat⟩
              obtain ⟨s0, s1, s2, s3, sf⟩ := cells4 r9
              obtain ⟨z0, z1, zf⟩ := cells2 r12
              clear HST1 HST2 HNX hde hlt2 hlen hlat hP2 hq2' hnx he1 he2
              go_wp2_with fail
              go_at_call 56; refine (cx _).mono ?_; rintro e w6 ⟨rfl, hb⟩
              replace hO5 := hO5.below hb
              replace r9 := r9.below hb
              replace r10 := r10.below hb
              clear s0 s1 s2 s3 sf z0 z1 zf hb cx r12 heq
              obtain ⟨z0, z1, zf⟩ := cells2 r10
              obtain ⟨Z, hZ⟩ : ∃ Z, Z = (w6.setCell ⟨g10, 0, none⟩ (.int .u64 (e1 : Int))).setCell ⟨g10, 1, none⟩ (.int .u64 (e2 : Int)) := ⟨_, rfl⟩
              have hgZ : w6.grownBy Z (some g10) := by rw [hZ]; exact gset (gset (grefl _ _))
              have hne9 : g9 ≠ g10 := fun e => by
                have h1 : w6.heap[g9]? = _ := r9
                have h2 : w6.heap[g10]? = _ := r10
                rw [e, h2] at h1
                injection h1 with h1
                injection h1 with _ h1
                exact absurd h1 (by decide)
              have q10 := row_set2a r10 (.int .u64 (e1 : Int)) (.int .u64 (e2 : Int))
              rw [← hZ] at q10
              have hO6 : PfO w Z (.slice (some ⟨g3, 0, none⟩) pl cap3) (P ++ [⟨six, f, (wk : Int)⟩]) := ⟨hO5.ou.kept hgZ (.inr (fun e => box_ne r10 hO5.ou (by decide) e.symm)), by rw [hZ]; exact bset (bset hO5.bl hw10) hw10⟩
              replace r9 := r9.gkeep hgZ (by simpa using hne9)
              clear hO5 r10 hne9 hgZ
              go_upto_region 15 with fail
              rw [← hZ]
              clear hZ z0 z1 zf
              obtain ⟨z0, z1, zf⟩ := cells2 q10
              obtain ⟨V, hV⟩ : ∃ V, V = Z.alloc (.cells #[.int .u64 (e1 : Int), .int .u64 (e2 : Int)] 25) := ⟨_, rfl⟩
              have hbV : Below Z.heap.size Z V := by rw [hV]; exact below_new (Below.refl _ _) _
              have v10 : RowAt V Z.heap.size [.int .u64 (hiN (la + 1) : Int), .int .u64 (loN (la + 1) : Int)] 25 := by rw [HEE.out.1, HEE.out.2, hV]; exact RowAt.new _ _ _
              have HF : Hid (PfO w V (.slice (some ⟨g3, 0, none⟩) pl cap3) (P ++ [⟨six, f, (wk : Int)⟩]) ∧ prefL six l = (P ++ [⟨six, f, (wk : Int)⟩]) ++ (prefS six q' (la + 1) t ++ rest) ∧ 4097 ≤ q' + (P ++ [(⟨six, f, (wk : Int)⟩ : Pf)]).length ∧ (P ++ [(⟨six, f, (wk : Int)⟩ : Pf)]).length ≤ 4096 ∧ la + 1 ≤ t ∧ RowAt V g9 [.int .u64 (x1 : Int), .int .u64 (x2 : Int), .int .u64 (ta : Int), .int .u64 (tb : Int)] 34 ∧ RowAt V Z.heap.size [.int .u64 (hiN (la + 1) : Int), .int .u64 (loN (la + 1) : Int)] 25 ∧ w.heap.size ≤ Z.heap.size) := ⟨hO6.below hbV, HP2.out.1, HP2.out.2.1, HP2.out.2.2.1, HP2.out.2.2.2, r9.below hbV, v10, hO6.bl.size⟩
              have HML : Hid (P.length + 1 = pl ∧ P.length < 4096) := ⟨HPL2.out.symm, by have := HPL.out; omega⟩
              clear hO6 r9 v10 hbV HP2 q10
              go_wp2_with fail
              rw [← hV]
              go_roundw
              case rel => exact ⟨_, _, _, _, rfl, HF⟩
              case measure =>
                have := HML.out
                simp [lenV]
                omega
      · have hkn : decide ((k : Int) < (n : Int)) = false := decide_eq_false (by omega)
        have hdr : l.drop k = [] := List.drop_of_length_le (by have := HN.out; omega)
        rw [hdr, List.flatMap_nil, List.append_nil] at hP
        have HV : Hid (R = (P, 0)) := by show _ = _; rw [HD.out, hP, if_neg (by omega)]
        have HO : Hid (PfO w wr u7 P) := hO
        clear hdr hP hO HI HD
        go_wp2_with fail
        (try rw [Exit.noGoto_ret])
        go_ret2
        exact ⟨_, by rw [HV.out]; rfl, by rw [HV.out]; exact HO.out⟩
end Go.Proofs.Ytiemlaehhmlhmaa.Sp
