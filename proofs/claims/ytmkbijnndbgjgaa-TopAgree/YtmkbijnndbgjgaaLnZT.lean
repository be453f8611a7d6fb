/- What line.together's iterator tells. -/
import Derived.Test.YtmkbijnndbgjgaaLnZ1
import Derived.Test.YtmkbijnndbgjgaaIvZ1
set_option linter.unusedVariables false
namespace Go.Proofs.Ytmkbijnndbgjgaa.Ln
open Go.RowKit Go.Shelf
open Go.Proofs.Ytmkbijnndbgjgaa.Iv (Iv okI okI_iff Kr rowK kr_t kr_refl kr_below kr_b kr_row kr_cell)
open Go.Proofs.Ytmkbijnndbgjgaa.Lk (HasRow hasRow_own addr_add)
open Go.Proofs.Ytmkbijnndbgjgaa.Sp (grown_of)
open Go.Proofs.Ytmkbijnndbgjgaa.Addr (RowAt below2 below_drew below_new bset RowAt.lt RowAt.cell RowAt.frozen RowAt.below RowAt.drew RowAt.new RowAt.alloc cells2 cells4)
attribute [local go_sem] Oper.semAt_some
attribute [-go_sem] Builtin.append_
def encT (x : Tg) : Array Value := #[.agg #[.int .i64 x.lo, .int .i64 x.hi], .agg #[.int .u8 x.u.kind, .int .i64 x.u.at', .int .u8 x.v.kind, .int .i64 x.v.at']]
theorem cell_lt {W : World} {p : Addr} {v : Value} (h : W.cell? p = some v) : p.block < W.heap.size := by
  unfold World.cell? at h
  cases hb : W.heap[p.block]? with
  | none => rw [hb] at h; cases h
  | some o => exact (Array.getElem?_eq_some_iff.1 hb).1
theorem together_any (va vb : Value) (w : World) (hv : ∃ o n c, va = .slice o n c) (hv2 : ∃ o n c, vb = .slice o n c) :
    Calls Try.prog 47 #[va, vb] w fun e w' => e = .returned (.func (.func 67) #[] #[.pointer (some ⟨w.heap.size, 0, none⟩), .pointer (some ⟨w.heap.size + 1, 0, none⟩)]) ∧ w' = (w.alloc (.cells #[va] 62)).alloc (.cells #[vb] 62) := by
  obtain ⟨o, n, c, rfl⟩ := hv
  obtain ⟨o2, n2, c2, rfl⟩ := hv2
  go_enter Try.func47, Try.ntmps47
  go_wp2
  go_ret
  exact ⟨rfl, rfl⟩
set_option maxHeartbeats 16000000 in
set_option maxRecDepth 20000 in
theorem tog1_stops (a b : List Er) (oa ob : Option Addr) (ca cb n Ba Bb rb : Nat) (w : World) (ha : HasL w (.slice oa a.length ca) a) (hb : HasL w (.slice ob b.length cb) b) (ra : RowAt w Ba [.slice oa a.length ca] 62) (rbb : RowAt w Bb [.slice ob b.length cb] 62)
    (hrb : rb < w.heap.size) (hna : Ba ≠ rb) (hnb : Bb ≠ rb) (hoa : ∀ p, oa = some p → 0 < a.length → p.block ≠ rb) (hob : ∀ p, ob = some p → 0 < b.length → p.block ≠ rb) (hrow : rowK w rb = none) (hla : a.length ≤ 1024) (hlb : b.length ≤ 1024) :
    SeqStopsK Fence.wide n Try.prog 67 #[.pointer (some ⟨Ba, 0, none⟩), .pointer (some ⟨Bb, 0, none⟩)] encT (Kr rb) (fun xs => xs = togL a b) (fun pre => True) (togL a b).length w := by
  intro lp J Jx W hW hJ hJx hY h0
  have hrbW : rb < W.heap.size := Nat.lt_of_lt_of_le hrb hW.size
  have hrowW : rowK W rb = none := by rw [← hrow]; unfold rowK; rw [hW.cell (p := ⟨rb, 0, none⟩) hrb]
  have haW := ha.keep hW
  have hbW := hb.keep hW
  have HWC : Hid (∀ wr, Kr rb W wr → wr.cell? ⟨Ba, 0, none⟩ = some (.slice oa a.length ca) ∧ wr.cell? ⟨Bb, 0, none⟩ = some (.slice ob b.length cb)) := fun wr hk => by
    have h1 := (ra.below hW)
    have h2 := (rbb.below hW)
    exact ⟨kr_cell hk (h1.cell 0) hna (by rw [hrowW]; simp), kr_cell hk (h2.cell 0) hnb (by rw [hrowW]; simp)⟩
  have HAC : Hid (∀ (j : Nat) (hj : j < a.length), ∃ g i, oa = some ⟨g, i, none⟩ ∧ ∀ wr, Kr rb W wr → wr.cell? ⟨g, i + j * 4, none⟩ = some (.int .i64 a[j].a) ∧ wr.cell? ⟨g, i + j * 4 + 1, none⟩ = some (.int .i64 a[j].b) ∧ wr.cell? ⟨g, i + j * 4 + 2, none⟩ = some (.int .u8 a[j].v.kind) ∧ wr.cell? ⟨g, i + j * 4 + 3, none⟩ = some (.int .i64 a[j].v.at')) := fun j hj => by
    obtain ⟨g, i, e, _, c0, c1, c2, c3⟩ := HasL.cell haW j hj
    have hg := hoa _ e (by omega)
    exact ⟨g, i, e, fun wr hk => ⟨kr_cell hk c0 hg (by rw [hrowW]; simp), kr_cell hk c1 hg (by rw [hrowW]; simp), kr_cell hk c2 hg (by rw [hrowW]; simp), kr_cell hk c3 hg (by rw [hrowW]; simp)⟩⟩
  have HBC : Hid (∀ (j : Nat) (hj : j < b.length), ∃ g i, ob = some ⟨g, i, none⟩ ∧ ∀ wr, Kr rb W wr → wr.cell? ⟨g, i + j * 4, none⟩ = some (.int .i64 b[j].a) ∧ wr.cell? ⟨g, i + j * 4 + 1, none⟩ = some (.int .i64 b[j].b) ∧ wr.cell? ⟨g, i + j * 4 + 2, none⟩ = some (.int .u8 b[j].v.kind) ∧ wr.cell? ⟨g, i + j * 4 + 3, none⟩ = some (.int .i64 b[j].v.at')) := fun j hj => by
    obtain ⟨g, i, e, _, c0, c1, c2, c3⟩ := HasL.cell hbW j hj
    have hg := hob _ e (by omega)
    exact ⟨g, i, e, fun wr hk => ⟨kr_cell hk c0 hg (by rw [hrowW]; simp), kr_cell hk c1 hg (by rw [hrowW]; simp), kr_cell hk c2 hg (by rw [hrowW]; simp), kr_cell hk c3 hg (by rw [hrowW]; simp)⟩⟩
  have HRK : Hid (∀ wr g, Kr rb W wr → rowK wr rb = some g → g < wr.heap.size) := fun wr g hk hg => by
    rcases hk.2.2 g hg with e | e
    · rw [hrowW] at e; cases e
    · exact e.2
  have HSZ : Hid (∀ wr, Kr rb W wr → rb < wr.heap.size) := fun wr hk => Nat.lt_of_lt_of_le hrbW hk.1
  obtain ⟨na, hna2⟩ : ∃ m, m = a.length := ⟨_, rfl⟩
  obtain ⟨nb, hnb2⟩ : ∃ m, m = b.length := ⟨_, rfl⟩
  have HNA : Hid (na = a.length) := hna2
  have HNB : Hid (nb = b.length) := hnb2
  rw [← hna2, ← hnb2] at HWC
  rw [← hna2] at hla
  rw [← hnb2] at hlb
  obtain ⟨full, hfull⟩ : ∃ full, full = togL a b := ⟨_, rfl⟩
  rw [← hfull] at hY ⊢
  have HF0 : Hid (full = [] ++ togL (a.drop 0) (b.drop 0)) := hfull
  have HY : Hid _ := hY
  have h00 : J [] W := h0
  have hni : (na : Int) ≤ 1024 := by omega
  have hmi : (nb : Int) ≤ 1024 := by omega
  clear hY h0 hfull ha hb haW hbW ra rbb hrow hrowW hna hnb hoa hob hrb hna2 hnb2
  have hcW := HWC.out W kr_refl
  obtain ⟨d0, d1⟩ := hcW
  show CallsIn Fence.wide n Try.prog 67 #[.func (.yield lp) #[] #[], .pointer (some ⟨Ba, 0, none⟩), .pointer (some ⟨Bb, 0, none⟩)] W _
  refine callsIn_of_wp Try.func67 rfl trivial ?_ rfl
  simp only [Try.ntmps67, List.size_toArray, List.length_cons, List.length_nil, Nat.reduceAdd, Nat.reduceSub, Array.replicate_succ, Array.replicate_zero, List.push_toArray, List.append_toArray, List.nil_append, List.cons_append]
  gi_wp2
  gi_loopw [4, 5] (fun f q wr => ∃ (i j : Nat) (pre : List Tg), i ≤ na ∧ j ≤ nb ∧ f = .int .i64 (i : Int) ∧ q = .int .i64 (j : Int) ∧ Hid (full = pre ++ togL (a.drop i) (b.drop j)) ∧ J pre wr ∧ Kr rb W wr) (fun f q _ => na + nb - ((Go.RowKit.intOf f).toNat + (Go.RowKit.intOf q).toNat))
  case atStart => exact ⟨0, 0, [], by omega, by omega, rfl, rfl, HF0, h00, kr_refl⟩
  case round =>
    obtain ⟨i, j, pre, hi, hj, rfl, rfl, HF, hJs, hK⟩ := hrel
    clear HF0 d0 d1
    obtain ⟨d0, d1⟩ := HWC.out _ hK
    by_cases hlt : i < na
    · by_cases hlt2 : j < nb
      · have hiz : i < a.length := by rw [← HNA.out]; exact hlt
        have hjz : j < b.length := by rw [← HNB.out]; exact hlt2
        obtain ⟨ga, ia, rfl, hca⟩ := HAC.out i hiz
        obtain ⟨gb, ib, rfl, hcb⟩ := HBC.out j hjz
        obtain ⟨e1, e2, e3, e4⟩ := hca wr hK
        obtain ⟨f1, f2, f3, f4⟩ := hcb wr hK
        have HD : Hid (togL (a.drop i) (b.drop j) = ⟨max a[i].a b[j].a, min a[i].b b[j].b, a[i].v, b[j].v⟩ :: togL (if a[i].b ≤ b[j].b then a.drop (i + 1) else a.drop i) (if b[j].b ≤ a[i].b then b.drop (j + 1) else b.drop j)) := by
          show _ = _
          rw [List.drop_eq_getElem_cons hiz, List.drop_eq_getElem_cons hjz, tog_cons]
        obtain ⟨x, hx⟩ : ∃ x : Er, x = a[i] := ⟨_, rfl⟩
        obtain ⟨y, hy⟩ : ∃ x : Er, x = b[j] := ⟨_, rfl⟩
        rw [← hx] at e1 e2 e3 e4 HD
        rw [← hy] at f1 f2 f3 f4 HD
        obtain ⟨xa, xb, ⟨xk, xi⟩⟩ := x
        obtain ⟨ya, yb, ⟨yk, yi⟩⟩ := y
        clear hx hy hca hcb
        simp only at e1 e2 e3 e4 f1 f2 f3 f4 HD
        obtain ⟨lo, hlo⟩ : ∃ lo, lo = max xa ya := ⟨_, rfl⟩
        obtain ⟨hi', hhi⟩ : ∃ hi, hi = min xb yb := ⟨_, rfl⟩
        have cm := fun (W : World) => com_any (xa, xb) (ya, yb) W
        unfold comI at cm
        simp only at cm
        rw [← hlo, ← hhi] at cm HD
        clear hlo hhi
        have HF2 : Hid (full = (pre ++ [⟨lo, hi', ⟨xk, xi⟩, ⟨yk, yi⟩⟩]) ++ togL (if xb ≤ yb then a.drop (i + 1) else a.drop i) (if yb ≤ xb then b.drop (j + 1) else b.drop j)) := by
          show _ = _
          rw [HF.out, HD.out, List.append_assoc]; rfl
        have hs := HSZ.out wr hK
        have hin : (i : Int) < (na : Int) := by omega
        have hjn : (j : Int) < (nb : Int) := by omega
        have mixed : Try.prog.follows .mixedOrders = true := by kernel_rfl
        clear HF HD
        gi_upto_region 2 with fail
        have hl1 : Ba < wr.heap.size := cell_lt d0
        have hl2 : Bb < wr.heap.size := cell_lt d1
        have hl3 : ga < wr.heap.size := cell_lt e1
        have hl4 : gb < wr.heap.size := cell_lt f1
        gi_cut [6, 7] from 8 (fun p q wc => ∃ g6 g7, p = .pointer (some ⟨g6, 0, none⟩) ∧ q = .pointer (some ⟨g7, 0, none⟩) ∧ RowAt wc g6 [.int .i64 xa, .int .i64 xb, .int .u8 xk, .int .i64 xi] 106 ∧ RowAt wc g7 [.int .i64 ya, .int .i64 yb, .int .u8 yk, .int .i64 yi] 106 ∧ Below wr.heap.size wr wc ∧ wr.heap.size ≤ g6 ∧ wr.heap.size ≤ g7)
        case first =>
          gi_region
          all_goals gi_wp2
          all_goals gi_meet
          all_goals first
            | exact ⟨_, _, rfl, rfl, ((RowAt.new _ _ _).alloc _).drew, by first | exact (RowAt.new _ _ _).drew | (have h := RowAt.new (wr.alloc (.cells #[.int .i64 xa, .int .i64 xb, .int .u8 xk, .int .i64 xi] 106)) [.int .i64 ya, .int .i64 yb, .int .u8 yk, .int .i64 yi] 106; simp only [World.size_alloc] at h; exact h.drew), below_drew (below_new (below_new (Below.refl _ _) _) _), by omega, by omega⟩
            | exact ⟨_, _, rfl, rfl, by first | exact (RowAt.new _ _ _).drew | (have h := RowAt.new (wr.alloc (.cells #[.int .i64 ya, .int .i64 yb, .int .u8 yk, .int .i64 yi] 106)) [.int .i64 xa, .int .i64 xb, .int .u8 xk, .int .i64 xi] 106; simp only [World.size_alloc] at h; exact h.drew), ((RowAt.new _ _ _).alloc _).drew, below_drew (below_new (below_new (Below.refl _ _) _) _), by omega, by omega⟩
        case rest =>
        obtain ⟨g6, g7, rfl, rfl, r6, r7, hbV, hg6, hg7⟩ := hcut
        obtain ⟨V, hV⟩ : ∃ V, V = wc := ⟨_, rfl⟩
        rw [← hV] at r6 r7 hbV ⊢
        clear hV
        have hJV : J pre V := hJ pre wr V none hJs (grown_of hbV) (fun r e => by cases e)
        have hKV : Kr rb W V := kr_t hK (kr_below hbV hs)
        have hrk : ∀ g, wr.heap.size ≤ g → rowK V rb ≠ some g := fun g hg e => by
          have e3 : rowK V rb = rowK wr rb := by unfold rowK; rw [hbV.cell (p := ⟨rb, 0, none⟩) hs]
          rw [e3] at e
          have := HRK.out wr _ hK e
          omega
        have hrk6 := hrk g6 hg6
        have hrk7 := hrk g7 hg7
        have hne6 : g6 ≠ rb := by omega
        have hne7 : g7 ≠ rb := by omega
        have hl6 := RowAt.lt r6
        have hl7 := RowAt.lt r7
        have hsV : rb < V.heap.size := HSZ.out V hKV
        clear hbV hJs hK e1 e2 e3 e4 f1 f2 f3 f4 d0 d1 hl1 hl2 hl3 hl4 hrk hg6 hg7 hs
        obtain ⟨x0, x1, x2, x3, xf⟩ := cells4 r6
        obtain ⟨y0, y1, y2, y3, yf⟩ := cells4 r7
        gi_upto_region 3 with fail
        gi_cut [38] from 8 (fun v wc => ∃ bb : Bool, v = .bool (!bb) ∧ ((bb = true ∧ J (pre ++ [⟨lo, hi', ⟨xk, xi⟩, ⟨yk, yi⟩⟩]) wc ∧ Kr rb W wc ∧ RowAt wc g6 [.int .i64 xa, .int .i64 xb, .int .u8 xk, .int .i64 xi] 106 ∧ RowAt wc g7 [.int .i64 ya, .int .i64 yb, .int .u8 yk, .int .i64 yi] 106) ∨ (bb = false ∧ Jx (pre ++ [⟨lo, hi', ⟨xk, xi⟩, ⟨yk, yi⟩⟩]) wc)))
        case first =>
          gi_region_with_o (first
            | (refine ⟨trivial, (fun h => by simp [Fence.wide] at h), ?_⟩
               gi_at_call 45
               refine (callsIn_wide.2 (cm _)).mono ?_
               rintro e w5 ⟨rfl, hb5⟩
               have hbW5 : Below V.heap.size V w5 := below2 (by (repeat' (first | exact Below.refl _ _ | refine Below.drew ?_))) hb5
               have hJ5 : J pre w5 := hJ pre V w5 none hJV (grown_of hbW5) (fun r e => by cases e)
               obtain ⟨fn, tmps, assign, body, hy, hR⟩ := HY.out pre ⟨lo, hi', ⟨xk, xi⟩, ⟨yk, yi⟩⟩ w5 hJ5 (by rw [HF2.out]; simp)
               have hy2 : _ := hy
               unfold encT at hy2
               simp only at hy2
               have w6 := r6.below hbW5
               have w7 := r7.below hbW5
               obtain ⟨x0', x1', x2', x3', xf'⟩ := cells4 w6
               obtain ⟨y0', y1', y2', y3', yf'⟩ := cells4 w7
               clear hy)
            | (refine ⟨(fun h => by simp [Fence.wide] at h), ?_⟩
               refine hR.mono ?_
               intro e W3 hYR
               have hE : ∃ bb : Bool, e = .returned (.bool bb) ∧ ((bb = true ∧ J (pre ++ [⟨lo, hi', ⟨xk, xi⟩, ⟨yk, yi⟩⟩]) W3 ∧ Kr rb W W3 ∧ RowAt W3 g6 [.int .i64 xa, .int .i64 xb, .int .u8 xk, .int .i64 xi] 106 ∧ RowAt W3 g7 [.int .i64 ya, .int .i64 yb, .int .u8 yk, .int .i64 yi] 106) ∨ (bb = false ∧ Jx (pre ++ [⟨lo, hi', ⟨xk, xi⟩, ⟨yk, yi⟩⟩]) W3)) := by
                 rcases hYR with ⟨rfl, h1, h2⟩ | ⟨rfl, h1⟩
                 · have e6 : rowK w5 rb = rowK V rb := by unfold rowK; rw [hbW5.cell (p := ⟨rb, 0, none⟩) hsV]
                   exact ⟨true, rfl, .inl ⟨rfl, h1, kr_t (kr_t hKV (kr_below hbW5 hsV)) h2, kr_row h2 w6 hne6 (by rw [e6]; exact hrk6), kr_row h2 w7 hne7 (by rw [e6]; exact hrk7)⟩⟩
                 · exact ⟨false, rfl, .inr ⟨rfl, h1⟩⟩
               obtain ⟨bb, rfl, hBB⟩ := hE))
          all_goals gi_wp2
          all_goals gi_meet
          all_goals exact ⟨bb, rfl, hBB⟩
        case rest =>
        obtain ⟨bb, rfl, hBB⟩ := hcut
        clear x0 x1 x2 x3 xf y0 y1 y2 y3 yf r6 r7 hJV hKV hrk6 hrk7 hne6 hne7 hl6 hl7 hsV
        rcases hBB with ⟨rfl, hJ3, hK3, r6, r7⟩ | ⟨rfl, hJx3⟩
        · obtain ⟨x0, x1, x2, x3, xf⟩ := cells4 r6
          obtain ⟨y0, y1, y2, y3, yf⟩ := cells4 r7
          have hi1 : IntKind.i64.wrap ((i : Int) + 1) = (i : Int) + 1 := by rw [IntKind.wrap_i64]; omega
          have hj1 : IntKind.i64.wrap ((j : Int) + 1) = (j : Int) + 1 := by rw [IntKind.wrap_i64]; omega
          by_cases h1 : xb ≤ yb
          · have hd1 : decide (xb ≤ yb) = true := decide_eq_true h1
            by_cases h2 : yb ≤ xb
            · have hd2 : decide (yb ≤ xb) = true := decide_eq_true h2
              have HF3 : Hid (full = (pre ++ [⟨lo, hi', ⟨xk, xi⟩, ⟨yk, yi⟩⟩]) ++ togL (a.drop (i + 1)) (b.drop (j + 1))) := by
                show _ = _
                rw [HF2.out, if_pos h1, if_pos h2]
              clear HF2
              gi_wp2
              refine ⟨⟨i + 1, j + 1, pre ++ [⟨lo, hi', ⟨xk, xi⟩, ⟨yk, yi⟩⟩], by omega, by omega, by first | rfl | go_num, by first | rfl | go_num, HF3, hJ3, hK3⟩, ?_⟩
              simp [Go.RowKit.intOf]
              try omega
            · have hd2 : decide (yb ≤ xb) = false := decide_eq_false h2
              have HF3 : Hid (full = (pre ++ [⟨lo, hi', ⟨xk, xi⟩, ⟨yk, yi⟩⟩]) ++ togL (a.drop (i + 1)) (b.drop (j))) := by
                show _ = _
                rw [HF2.out, if_pos h1, if_neg h2]
              clear HF2
              gi_wp2
              refine ⟨⟨i + 1, j, pre ++ [⟨lo, hi', ⟨xk, xi⟩, ⟨yk, yi⟩⟩], by omega, by omega, by first | rfl | go_num, by first | rfl | go_num, HF3, hJ3, hK3⟩, ?_⟩
              simp [Go.RowKit.intOf]
              try omega
          · have hd1 : decide (xb ≤ yb) = false := decide_eq_false h1
            have h2 : yb ≤ xb := by omega
            have hd2 : decide (yb ≤ xb) = true := decide_eq_true h2
            have HF3 : Hid (full = (pre ++ [⟨lo, hi', ⟨xk, xi⟩, ⟨yk, yi⟩⟩]) ++ togL (a.drop (i)) (b.drop (j + 1))) := by
              show _ = _
              rw [HF2.out, if_neg h1, if_pos h2]
            clear HF2
            gi_wp2
            refine ⟨⟨i, j + 1, pre ++ [⟨lo, hi', ⟨xk, xi⟩, ⟨yk, yi⟩⟩], by omega, by omega, by first | rfl | go_num, by first | rfl | go_num, HF3, hJ3, hK3⟩, ?_⟩
            simp [Go.RowKit.intOf]
            try omega
        · gi_wp2
          (try simp only [Exit.inBlock, Exit.then])
          first
            | (refine bodyPost_ret (results_none rfl _ _ _) rfl ?_
               exact ⟨⟨_, rfl⟩, .inr ⟨_, trivial, hJx3⟩⟩)
            | (go_end0
               exact ⟨⟨_, rfl⟩, .inr ⟨_, trivial, hJx3⟩⟩)
      · have hd2 : decide ((j : Int) < (nb : Int)) = false := decide_eq_false (by omega)
        have hin : decide ((i : Int) < (na : Int)) = true := decide_eq_true (by omega)
        have hte : b.drop j = [] := List.drop_eq_nil_of_le (by have := HNB.out; omega)
        have HF2 : Hid (full = pre) := by show _ = _; rw [HF.out, hte, tog_nil2, List.append_nil]
        clear HF hte
        gi_wp2
        go_end0
        first | exact ⟨⟨_, rfl⟩, .inl ⟨_, HF2.out.symm, hJs⟩⟩ | exact ⟨⟨_, rfl⟩, .inl (by rw [HF2.out]; exact hJs)⟩
    · have hd1 : decide ((i : Int) < (na : Int)) = false := decide_eq_false (by omega)
      have hte : a.drop i = [] := List.drop_eq_nil_of_le (by have := HNA.out; omega)
      have HF2 : Hid (full = pre) := by show _ = _; rw [HF.out, hte, tog_nil1, List.append_nil]
      clear HF hte
      gi_wp2
      go_end0
      first | exact ⟨⟨_, rfl⟩, .inl ⟨_, HF2.out.symm, hJs⟩⟩ | exact ⟨⟨_, rfl⟩, .inl (by rw [HF2.out]; exact hJs)⟩
end Go.Proofs.Ytmkbijnndbgjgaa.Ln
