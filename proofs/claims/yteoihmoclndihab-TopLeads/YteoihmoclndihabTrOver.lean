/- The node of a row that has an address: sort.Search, over. -/
import Derived.Test.YteoihmoclndihabTrUnder1
import Derived.Test.YteoihmoclndihabAddrQuiet
set_option linter.unusedVariables false
namespace Go.Proofs.Yteoihmoclndihab.Tr
open Go.RowKit
open Go.Proofs.Yteoihmoclndihab.Lk (HasRow)
open Go.Proofs.Yteoihmoclndihab.Addr (Pf okP wideN kP hasB coversB cmpN hiN loN adV pfV cmp_any has_any RowAt below2 below_drew below_new bset RowAt.lt RowAt.cell RowAt.frozen RowAt.below RowAt.drew RowAt.new RowAt.alloc RowAt.set1 cells2 Bl bl_ne wp_region_bl bl_call bl_same)
theorem cmpN_gt (n m : Nat) : (0 < cmpN n m) ↔ m < n := by
  unfold cmpN
  split
  · constructor <;> intro h <;> omega
  · split
    · constructor <;> intro h <;> omega
    · constructor <;> intro h <;> omega
/-- a row of nodes in memory, and an address in a box -/
structure OvW (W : World) (s : List Seg) (us : List Value) (o : Option Addr) (c : Nat) (a bR bA : Nat) : Prop where
  row : HasRow W (.slice o s.length c) 11 s.length (nodeCs s us)
  len : us.length = s.length
  r : RowAt W bR [.slice o s.length c] 100
  ad : RowAt W bA [.int .u64 (hiN a : Int), .int .u64 (loN a : Int)] 26
theorem OvW.below {W W' : World} {s : List Seg} {us : List Value} {o : Option Addr} {c a bR bA : Nat} (h : OvW W s us o c a bR bA) (hb : Below W.heap.size W W') : OvW W' s us o c a bR bA := ⟨h.row.keep hb, h.len, h.r.below hb, h.ad.below hb⟩
theorem node_at {W : World} {s : List Seg} {us : List Value} {o : Option Addr} {c : Nat} (h : HasRow W (.slice o s.length c) 11 s.length (nodeCs s us)) (hl : us.length = s.length) (k : Nat) (hk : k < s.length) (hk2 : k < us.length) : ∃ b i, o = some ⟨b, i, none⟩ ∧ b < W.heap.size ∧ ∀ t, t < 11 → W.cell? ⟨b, i + k * 11 + t, none⟩ = (nodeC s[k].1 us[k])[t]? := by
  obtain ⟨_, b, i, e, hb, hc⟩ := Lk.HasRow.at h (by omega)
  exact ⟨b, i, e, hb, fun t ht => by rw [Nat.add_assoc, hc (k * 11 + t) (by omega), Nat.mul_comm k 11]; exact nodeCs_at s us hl k hk hk2 t ht⟩
set_option maxHeartbeats 8000000 in
set_option maxRecDepth 20000 in
theorem over1_any {s : List Seg} {us : List Value} {o : Option Addr} {c a bR bA : Nat} (k : Nat) (hk : k < s.length) (w : World) (h : OvW w s us o c a bR bA) (hn : s[k].1.pf.n < 2 ^ 128) (ha : a < 2 ^ 128) (hs : s.length ≤ 256) :
    Calls Try.prog 65 #[.int .i64 (k : Int), .pointer (some ⟨bR, 0, none⟩), .pointer (some ⟨bA, 0, none⟩)] w fun e w' => e = .returned (.bool (decide (a < s[k].1.pf.n))) ∧ Below w.heap.size w w' := by
  have cc := fun W => cmp_any s[k].1.pf.n a W hn ha
  have HD : Hid (decide (0 < cmpN s[k].1.pf.n a) = decide (a < s[k].1.pf.n)) := by
    show _ = _
    rw [Bool.eq_iff_iff, decide_eq_true_eq, decide_eq_true_eq]
    exact cmpN_gt _ _
  obtain ⟨b, i, rfl, hb, ax⟩ := node_at h.row h.len k hk (by rw [h.len]; exact hk)
  have b1 := ax 1 (by decide)
  have b2 := ax 2 (by decide)
  simp only [nodeC, pfC, List.cons_append, List.nil_append, List.getElem?_cons_zero, List.getElem?_cons_succ] at b1 b2
  unfold adV at cc
  have u1 : ∀ p : Bl w, p.W.cell? ⟨b, i + k * 11 + 1, none⟩ = some (.int .u64 (hiN s[k].1.pf.n : Int)) := fun p => (p.h.cell (p := ⟨b, i + k * 11 + 1, none⟩) hb).trans b1
  have u2 : ∀ p : Bl w, p.W.cell? ⟨b, i + k * 11 + 2, none⟩ = some (.int .u64 (loN s[k].1.pf.n : Int)) := fun p => (p.h.cell (p := ⟨b, i + k * 11 + 2, none⟩) hb).trans b2
  have m0 : ∀ p : Bl w, p.W.cell? ⟨bA, 0, none⟩ = some (.int .u64 (hiN a : Int)) := fun p => (h.ad.below p.h).cell 0
  have m1 : ∀ p : Bl w, p.W.cell? ⟨bA, 1, none⟩ = some (.int .u64 (loN a : Int)) := fun p => (h.ad.below p.h).cell 1
  have n0 : ∀ p : Bl w, p.W.cell? ⟨bR, 0, none⟩ = some (.slice (some ⟨b, i, none⟩) s.length c) := fun p => (h.r.below p.h).cell 0
  have hki : (k : Int) < (s.length : Int) := by omega
  rw [← HD.out]
  clear HD
  generalize cmpN s[k].1.pf.n a = R at *
  generalize (hiN s[k].1.pf.n : Int) = x1 at *
  generalize (loN s[k].1.pf.n : Int) = x2 at *
  generalize (hiN a : Int) = z1 at *
  generalize (loN a : Int) = z2 at *
  have hsi : (s.length : Int) ≤ 256 := by omega
  clear b1 b2 ax h hn
  generalize s.length = n at *
  haveI := bl_ne w
  go_enter Try.func65, Try.ntmps65
  go_wp2_with fail
  refine wp_region_bl (by kernel_rfl) (by kernel_rfl) ?_
  repeat (go_big_quiet_step (first | (go_at_call 45; with_reducible exact bl_call (cc _))))
  refine wpQuiet_nil ?_
  intro wq hw'
  obtain ⟨⟨wz, hq⟩, hw2⟩ := hw'
  subst hw2
  clear u1 u2 m0 m1 n0 cc
  go_wp2_with fail
  go_ret
  exact ⟨rfl, hq⟩
set_option maxHeartbeats 8000000 in
set_option maxRecDepth 20000 in
theorem searchs_any {s : List Seg} {us : List Value} {o : Option Addr} {c a bR bA : Nat} {six : Bool} (w : World) (h : OvW w s us o c a bR bA) (hg : Good s six) (ha : a < 2 ^ 128) (hs : s.length ≤ 256) :
    Calls Try.prog 64 #[.int .i64 (s.length : Int), .func (.func 65) #[] #[.pointer (some ⟨bR, 0, none⟩), .pointer (some ⟨bA, 0, none⟩)]] w fun e w' => ∃ k, Cut s a k ∧ e = .returned (.int .i64 (k : Int)) ∧ Below w.heap.size w w' := by
  have HC : Hid (∀ k (hk : k < s.length) (W : World), Below w.heap.size w W → Calls Try.prog 65 #[.int .i64 (k : Int), .pointer (some ⟨bR, 0, none⟩), .pointer (some ⟨bA, 0, none⟩)] W fun e w' => e = .returned (.bool (decide (a < s[k].1.pf.n))) ∧ Below W.heap.size W w') := fun k hk W hb => over1_any k hk W (h.below hb) (fit_ok (hg.ok _ (List.getElem_mem hk))).2 ha hs
  have HUp : Hid (∀ i j (hi : i < s.length) (hj : j < s.length), i ≤ j → s[i].1.pf.n ≤ s[j].1.pf.n) := fun i j hi hj hij => by
    by_cases e : i = j
    · subst e; exact Nat.le_refl _
    · have := List.pairwise_iff_getElem.1 hg.up i j hi hj (by omega)
      exact Nat.le_trans (Nat.le_add_right _ _) this
  obtain ⟨n, hn⟩ : ∃ n, n = s.length := ⟨_, rfl⟩
  have HN : Hid (n = s.length) := hn
  rw [← hn] at hs ⊢
  have hni : (n : Int) ≤ 256 := by omega
  clear h hg hn
  go_enter Try.func64, Try.ntmps64
  go_wp2_with fail
  go_loopw [5, 6] (fun u q wr => ∃ i j : Nat, i ≤ j ∧ j ≤ n ∧ u = .int .i64 i ∧ q = .int .i64 j ∧ Below w.heap.size w wr ∧ Hid ((∀ t (h : t < s.length), t < i → s[t].1.pf.n ≤ a) ∧ ∀ t (h : t < s.length), j ≤ t → a < s[t].1.pf.n)) (fun u q _ => (Go.RowKit.intOf q).toNat - (Go.RowKit.intOf u).toNat)
  case atStart => exact ⟨0, n, by omega, Nat.le_refl _, rfl, rfl, Below.refl _ _, (⟨fun t h h2 => by omega, fun t h h2 => by have := HN.out; omega⟩ : (∀ t (h : t < s.length), t < 0 → s[t].1.pf.n ≤ a) ∧ ∀ t (h : t < s.length), n ≤ t → a < s[t].1.pf.n)⟩
  case round =>
    obtain ⟨i, j, hij, hjn, rfl, rfl, hbr, HI⟩ := hrel
    have hin : (i : Int) ≤ 256 := by omega
    have hjn2 : (j : Int) ≤ 256 := by omega
    by_cases hlt : i < j
    · have hlti : (i : Int) < (j : Int) := by omega
      have hhl : (i + j) / 2 < s.length := by have := HN.out; omega
      have co := HC.out ((i + j) / 2) hhl
      have HLB : Hid (¬ (a < s[(i + j) / 2].1.pf.n) → ∀ t (h : t < s.length), t < (i + j) / 2 + 1 → s[t].1.pf.n ≤ a) := fun hq t h ht => by have := HUp.out t ((i + j) / 2) h hhl (by omega); omega
      have HLA : Hid (a < s[(i + j) / 2].1.pf.n → ∀ t (h : t < s.length), (i + j) / 2 ≤ t → a < s[t].1.pf.n) := fun hq t h ht => by have := HUp.out ((i + j) / 2) t hhl h ht; omega
      go_upto_region 4 with fail
      rw [show ((i : Int) + (j : Int)) / 2 = (((i + j) / 2 : Nat) : Int) by omega]
      have hm1 : i ≤ (i + j) / 2 := by omega
      have hm2 : (i + j) / 2 < j := by omega
      generalize (i + j) / 2 = m at *
      go_wp2_with fail
      go_at_call 65; refine (co _ hbr).mono ?_; rintro e w1 ⟨rfl, hb1⟩
      have hW := below2 hbr hb1
      clear hbr hb1 co
      by_cases hd : a < s[m].1.pf.n
      · have HF : Hid ((∀ t (h : t < s.length), t < i → s[t].1.pf.n ≤ a) ∧ ∀ t (h : t < s.length), m ≤ t → a < s[t].1.pf.n) := ⟨HI.out.1, HLA.out hd⟩
        rw [decide_eq_true hd]
        clear HLA HLB HI hd
        go_wp2_with fail
        go_roundw
        case rel => exact ⟨i, m, hm1, by omega, rfl, rfl, hW, HF⟩
        case measure => simp [Go.RowKit.intOf]; omega
      · have HF : Hid ((∀ t (h : t < s.length), t < m + 1 → s[t].1.pf.n ≤ a) ∧ ∀ t (h : t < s.length), j ≤ t → a < s[t].1.pf.n) := ⟨HLB.out hd, HI.out.2⟩
        rw [decide_eq_false hd]
        clear HLA HLB HI hd
        go_wp2_with fail
        go_roundw
        case rel => exact ⟨m + 1, j, by omega, hjn, by go_num, rfl, hW, HF⟩
        case measure => simp [Go.RowKit.intOf]; omega
    · obtain rfl : i = j := by omega
      have hd : decide ((i : Int) < (i : Int)) = false := decide_eq_false (by omega)
      have HP : Hid (Cut s a i) := ⟨by have := HN.out; omega, HI.out.1, HI.out.2⟩
      clear HI
      go_wp2_with fail
      go_ret
      exact ⟨i, HP.out, rfl, hbr⟩
def nodeV (r : Rt) (u : Value) : Value := .agg #[.bool r.pf.six, .int .u64 (hiN r.pf.n : Int), .int .u64 (loN r.pf.n : Int), .int .i64 r.pf.len, .bool r.pf.six, .int .u64 (hiN r.pf.n : Int), .int .u64 (loN r.pf.n : Int), .int .i64 r.pf.len, .int .u8 (r.act.k : Int), .int .i64 r.act.i, u]
def zeroN : Value := .agg #[.bool false, .int .u64 0, .int .u64 0, .int .i64 0, .bool false, .int .u64 0, .int .u64 0, .int .i64 0, .int .u8 0, .int .i64 0, .slice none 0 0]
theorem eleven_at {X : World} {g i : Nat} {r : Rt} {u : Value} (h : ∀ t, t < 11 → X.cell? ⟨g, i + t, none⟩ = (nodeC r u)[t]?) : X.cell? ⟨g, i, none⟩ = some (.bool r.pf.six) ∧ X.cell? ⟨g, i + 1, none⟩ = some (.int .u64 (hiN r.pf.n : Int)) ∧ X.cell? ⟨g, i + 2, none⟩ = some (.int .u64 (loN r.pf.n : Int)) ∧ X.cell? ⟨g, i + 3, none⟩ = some (.int .i64 r.pf.len) ∧ X.cell? ⟨g, i + 4, none⟩ = some (.bool r.pf.six) ∧ X.cell? ⟨g, i + 5, none⟩ = some (.int .u64 (hiN r.pf.n : Int)) ∧ X.cell? ⟨g, i + 6, none⟩ = some (.int .u64 (loN r.pf.n : Int)) ∧ X.cell? ⟨g, i + 7, none⟩ = some (.int .i64 r.pf.len) ∧ X.cell? ⟨g, i + 8, none⟩ = some (.int .u8 (r.act.k : Int)) ∧ X.cell? ⟨g, i + 9, none⟩ = some (.int .i64 r.act.i) ∧ X.cell? ⟨g, i + 10, none⟩ = some u :=
  ⟨h 0 (by decide), h 1 (by decide), h 2 (by decide), h 3 (by decide), h 4 (by decide), h 5 (by decide), h 6 (by decide), h 7 (by decide), h 8 (by decide), h 9 (by decide), h 10 (by decide)⟩
end Go.Proofs.Yteoihmoclndihab.Tr
