/- A cutter at work in memory: what tell, begin, goOn and come do. -/
import Derived.Test.YtkmchoipddaohaaCutCheck
import Derived.OwnWalk
import Derived.Laws.AppendOwn
import Derived.Deep.Cut
set_option linter.unusedVariables false
namespace Go.Proofs.Ytkmchoipddaohaa.Cut
open Go.RowKit
attribute [-go_sem] Builtin.append_

theorem addr_add (b o j : Nat) : (⟨b, o, none⟩ : Addr).add j = ⟨b, o + j, none⟩ := by unfold Addr.add; split <;> simp_all
def pcC (p : PcT) : List Value := [.int .u8 (p.1 : Int), strV p.2]
def pcCs (ps : List PcT) : List Value := ps.flatMap pcC
theorem pcCs_app (a b : List PcT) : pcCs (a ++ b) = pcCs a ++ pcCs b := by simp [pcCs]
theorem pcCs_len (ps : List PcT) : (pcCs ps).length = ps.length * 2 := by
  induction ps with
  | nil => rfl
  | cons p ps ih => simp only [pcCs, List.flatMap_cons, List.length_append, List.length_cons] at ih ⊢; rw [ih]; simp [pcC]; omega
theorem info_pc : (Try.prog.info? 38).map (fun i => (i.zero, i.size, i.bytes)) = some (some (.agg #[.int .u8 0, .string ⟨#[]⟩]), 2, 24) := by kernel_rfl
theorem info_parts {e sz by' : Nat} {z : Value} (h : (Try.prog.info? e).map (fun i => (i.zero, i.size, i.bytes)) = some (some z, sz, by')) : ∃ i, Try.prog.info? e = some i ∧ i.zero = some z ∧ i.size = sz ∧ i.bytes = by' := by
  cases hi : Try.prog.info? e with
  | none => rw [hi] at h; cases h
  | some i =>
    rw [hi] at h
    simp only [Option.map_some, Option.some.injEq, Prod.mk.injEq] at h
    exact ⟨i, rfl, h.1, h.2.1, h.2.2⟩
theorem append_pc {W : World} {n₀ k : Nat} {v : Value} {xs : List Value} (p : PcT) (hown : W.ownsRow n₀ 38 2 v k xs) (hk : k ≤ 4398046511104) (hn : n₀ ≤ W.heap.size) :
    ∃ g cap w3, (∀ ty, (Builtin.append_ #[24, 24] ty #[v, .slice (some ⟨W.heap.size, 0, none⟩) 1 1]).run Try.prog (W.alloc (.cells #[.int .u8 (p.1 : Int), .string ⟨p.2.toArray⟩] 38)) = .ok (.slice (some ⟨g, 0, none⟩) (k + 1) cap) w3) ∧
      w3.ownsRow n₀ 38 2 (.slice (some ⟨g, 0, none⟩) (k + 1) cap) (k + 1) (xs ++ pcC p) ∧ (W.alloc (.cells #[.int .u8 (p.1 : Int), .string ⟨p.2.toArray⟩] 38)).grownBy w3 v.ownBlock := by
  obtain ⟨i0, hi, hz0, hz1, hz2⟩ := info_parts info_pc
  have hrow := RowAt.new W (pcC p) 38
  have h := fun ty => run_append_own (P := Try.prog) (W.alloc (.cells #[.int .u8 (p.1 : Int), .string ⟨p.2.toArray⟩] 38)) n₀ 24 ty 38 i0 (.agg #[.int .u8 0, .string ⟨#[]⟩]) 2 24 Try.underlying24 hi hz0 hz1 hz2 rfl (by decide) v k xs (hown.alloc _) ⟨W.heap.size, 0, none⟩ 1 1 (pcC p) rfl
    (by intro j u hj; rw [addr_add, Nat.zero_add]; exact (hrow.cell j).trans hj) (by intro u hu; simp only [pcC, strV, List.mem_cons, List.not_mem_nil, or_false] at hu; rcases hu with rfl | rfl <;> rfl) (by unfold maxLen; omega) (by omega) (by simp; omega)
  obtain ⟨v', w3, hrun, h1, h2, h3⟩ := h 0
  obtain ⟨g, cap, rfl⟩ : ∃ g cap, v' = .slice (some ⟨g, 0, none⟩) (k + 1) cap := by
    rcases h1.2 with ⟨_, h0⟩ | ⟨g, cap, cur, e, _⟩
    · omega
    · exact ⟨g, cap, e⟩
  exact ⟨g, cap, w3, fun ty => hrun, h1, h2⟩
/-- a cutter at work at block g, its pieces in rows from block M on -/
def Kn (W : World) (g M : Nat) (c : Ct) (ps : List PcT) : Prop := ∃ V, RowAt W g [strV c.rest, .bool c.bad, .int .i64 c.skip, V] 42 ∧ W.ownsRow M 38 2 V ps.length (pcCs ps)
/-- what stays while it works -/
structure Kp (g M : Nat) (W W' : World) : Prop where
  os : W'.os = W.os
  tape : W'.tape = W.tape
  output : W'.output = W.output
  size : W.heap.size ≤ W'.heap.size
  block : ∀ k, k < M → k ≠ g → W'.heap[k]? = W.heap[k]?
theorem Kp.refl (g M : Nat) (W : World) : Kp g M W W := ⟨rfl, rfl, rfl, Nat.le_refl _, fun _ _ _ => rfl⟩
theorem Kp.trans {g M : Nat} {a b c : World} (h1 : Kp g M a b) (h2 : Kp g M b c) : Kp g M a c := ⟨h2.os.trans h1.os, h2.tape.trans h1.tape, h2.output.trans h1.output, Nat.le_trans h1.size h2.size, fun k hk hn => (h2.block k hk hn).trans (h1.block k hk hn)⟩
theorem Kp.below {g M : Nat} {a b : World} (hM : M ≤ a.heap.size) (h : Below a.heap.size a b) : Kp g M a b := ⟨h.os, h.tape, h.output, h.size, fun k hk _ => h.block k (by omega)⟩
theorem Kp.grown {g M : Nat} {a b : World} {r : Option Nat} (hM : M ≤ a.heap.size) (h : a.grownBy b r) (hr : ∀ k, r = some k → k = g ∨ M ≤ k) : Kp g M a b :=
  ⟨h.os, h.tape, h.output, h.size, fun k hk hn => h.block k (by omega) (fun e => by rcases hr k e.symm with h | h <;> omega)⟩
theorem own_ne {W : World} {m e size k b : Nat} {v : Value} {xs : List Value} (h : W.ownsRow m e size v k xs) (hb : b < m) : some b ≠ v.ownBlock := by
  rcases h.2 with ⟨rfl, _⟩ | ⟨g, cap, cur, rfl, hg, _⟩
  · simp [Value.ownBlock]
  · intro e
    obtain rfl : b = g := by simpa [Value.ownBlock] using e
    omega
theorem own_at {W : World} {m e size k : Nat} {v : Value} {xs : List Value} (h : W.ownsRow m e size v k xs) : ∀ j, v.ownBlock = some j → m ≤ j := by
  rcases h.2 with ⟨rfl, _⟩ | ⟨g, cap, cur, rfl, hg, _⟩
  · intro j e; simp [Value.ownBlock] at e
  · intro j e
    obtain rfl : g = j := by simpa [Value.ownBlock] using e
    exact hg
theorem grown_set (W : World) (b o : Nat) (v : Value) : W.grownBy (W.setCell ⟨b, o, none⟩ v) (some b) :=
  ⟨rfl, rfl, rfl, by simp [World.setCell], fun k hk hn => by simp only [World.setCell, Array.getElem?_modify]; rw [if_neg (fun e => hn (by rw [e]))]⟩
theorem own_set {W : World} {m e size k b o : Nat} {v x : Value} {xs : List Value} (h : W.ownsRow m e size v k xs) (hb : b < m) : (W.setCell ⟨b, o, none⟩ x).ownsRow m e size v k xs :=
  h.kept (grown_set W b o x) (.inr (fun e => own_ne h hb e.symm))
theorem own_below {W W' : World} {m e size k : Nat} {v : Value} {xs : List Value} (h : W.ownsRow m e size v k xs) (hb : Below W.heap.size W W') : W'.ownsRow m e size v k xs :=
  h.kept (row := none) ⟨hb.os, hb.tape, hb.output, hb.size, fun k hk _ => hb.block k hk⟩ (by cases v.ownBlock <;> simp)
theorem kp_set {g M : Nat} (W : World) (o : Nat) (x : Value) (hM : M ≤ W.heap.size) : Kp g M W (W.setCell ⟨g, o, none⟩ x) := Kp.grown hM (grown_set W g o x) (fun k e => .inl (by injection e with e; exact e.symm))
theorem rowAt_kept {W W' : World} {g : Nat} {cs : List Value} {t : TypeId} {r : Option Nat} (h : RowAt W g cs t) (hg : W.grownBy W' r) (hne : some g ≠ r) : RowAt W' g cs t := (hg.block g h.lt hne).trans h
set_option maxHeartbeats 1000000 in
theorem tell_any (g M : Nat) (c : Ct) (ps : List PcT) (k : Nat) (l : List UInt8) (W : World) (hg : g < M) (hM : M ≤ W.heap.size) (hk : Kn W g M c ps) (hl : ps.length ≤ 4398046511104) :
    Calls Try.prog 25 #[.pointer (some ⟨g, 0, none⟩), .int .u8 (k : Int), .string ⟨l.toArray⟩] W fun e W' => e = .returned (.tuple #[]) ∧ Kn W' g M c (ps ++ [(k, l)]) ∧ Kp g M W W' := by
  obtain ⟨V, hr, ho⟩ := hk
  obtain ⟨q, cap, w3, hrun, h1, h2⟩ := append_pc (k, l) ho hl hM
  have hr1 := rowAt_kept (hr.alloc (.cells #[.int .u8 (k : Int), .string ⟨l.toArray⟩] 38)) h2 (own_ne ho hg)
  have hM1 : M ≤ (W.alloc (.cells #[.int .u8 (k : Int), .string ⟨l.toArray⟩] 38)).heap.size := by simp; omega
  have hM3 : M ≤ w3.heap.size := Nat.le_trans hM1 h2.size
  have hk1 : Kp g M W w3 := (Kp.below hM (below_new (Below.refl _ _) _)).trans (Kp.grown hM1 h2 (fun j e => .inr (own_at ho j e)))
  have hfin : Kn (w3.setCell ⟨g, 3, none⟩ (.slice (some ⟨q, 0, none⟩) (ps.length + 1) cap)) g M c (ps ++ [(k, l)]) := by
    refine ⟨.slice (some ⟨q, 0, none⟩) (ps.length + 1) cap, hr1.set1 3 _, ?_⟩
    rw [pcCs_app, List.length_append]
    exact own_set h1 hg
  have hk2 := hk1.trans (kp_set (g := g) w3 3 (.slice (some ⟨q, 0, none⟩) (ps.length + 1) cap) hM3)
  have HF : Hid (Kn (w3.setCell ⟨g, 3, none⟩ (.slice (some ⟨q, 0, none⟩) (ps.length + 1) cap)) g M c (ps ++ [(k, l)])) := hfin
  have HK : Hid (Kp g M W (w3.setCell ⟨g, 3, none⟩ (.slice (some ⟨q, 0, none⟩) (ps.length + 1) cap))) := hk2
  obtain ⟨x0, x1, x2, x3, xf⟩ := cells4 hr
  obtain ⟨y0, y1, y2, y3, yf⟩ := cells4 hr1
  clear hfin hk2 hk1 h1 h2 hr1 hr ho hM1 hl x0 x1 x2 y0 y1 y2
  generalize ps.length = N at *
  generalize (⟨l.toArray⟩ : ByteArray) = z at *
  go_enter Try.func25, Try.ntmps25
  go_wp2_with fail
  go_returns
  exact ⟨rfl, HF.out, HK.out⟩
theorem Kn.cells {W : World} {g M : Nat} {c : Ct} {ps : List PcT} (h : Kn W g M c ps) : ∃ V, W.cell? ⟨g, 0, none⟩ = some (.string ⟨c.rest.toArray⟩) ∧ W.cell? ⟨g, 1, none⟩ = some (.bool c.bad) ∧ W.cell? ⟨g, 2, none⟩ = some (.int .i64 c.skip) ∧ W.cell? ⟨g, 3, none⟩ = some V ∧ (∀ k, W.frozen? ⟨g, k, none⟩ = false) ∧ g < W.heap.size := by
  obtain ⟨V, hr, _⟩ := h
  obtain ⟨x0, x1, x2, x3, xf⟩ := cells4 hr
  exact ⟨V, x0, x1, x2, x3, xf, hr.lt⟩
theorem Kn.below {W W' : World} {g M : Nat} {c : Ct} {ps : List PcT} (h : Kn W g M c ps) (hb : Below W.heap.size W W') : Kn W' g M c ps := by
  obtain ⟨V, hr, ho⟩ := h
  exact ⟨V, hr.below hb, own_below ho hb⟩
theorem Kn.set0 {W : World} {g M : Nat} {c : Ct} {ps : List PcT} (h : Kn W g M c ps) (hg : g < M) (l : List UInt8) : Kn (W.setCell ⟨g, 0, none⟩ (.string ⟨l.toArray⟩)) g M ⟨l, c.bad, c.skip⟩ ps := by
  obtain ⟨V, hr, ho⟩ := h
  exact ⟨V, hr.set1 0 _, own_set ho hg⟩
theorem Kn.set1 {W : World} {g M : Nat} {c : Ct} {ps : List PcT} (h : Kn W g M c ps) (hg : g < M) (b : Bool) : Kn (W.setCell ⟨g, 1, none⟩ (.bool b)) g M ⟨c.rest, b, c.skip⟩ ps := by
  obtain ⟨V, hr, ho⟩ := h
  exact ⟨V, hr.set1 1 _, own_set ho hg⟩
theorem Kn.set2 {W : World} {g M : Nat} {c : Ct} {ps : List PcT} (h : Kn W g M c ps) (hg : g < M) (s : Int) : Kn (W.setCell ⟨g, 2, none⟩ (.int .i64 s)) g M ⟨c.rest, c.bad, s⟩ ps := by
  obtain ⟨V, hr, ho⟩ := h
  exact ⟨V, hr.set1 2 _, own_set ho hg⟩
theorem size_set (W : World) (a : Addr) (v : Value) : (W.setCell a v).heap.size = W.heap.size := by simp [World.setCell]
/-- 'string([]byte{b})' -/
theorem conv_at (W : World) (g : Nat) (b : UInt8) (h : W.cell? ⟨g, 0, none⟩ = some (.int .u8 (b.toNat : Int))) : (convert 50 9 (.slice (some ⟨g, 0, none⟩) 1 1)).run Try.prog W = .ok (.string ⟨[b].toArray⟩) W :=
  run_convert_bytes_back (P := Try.prog) W 50 9 5 ⟨g, 0, none⟩ 1 [b] Try.underlying50 Try.underlying5 Try.underlying9 (fun j hj => by
    obtain rfl : j = 0 := by simpa using hj
    rw [addr_add]
    exact h)
theorem conv1 (W : World) (b : UInt8) : (convert 50 9 (.slice (some ⟨W.heap.size, 0, none⟩) 1 1)).run Try.prog (W.alloc (.cells #[.int .u8 (b.toNat : Int)] 5)) = .ok (.string ⟨#[b]⟩) (W.alloc (.cells #[.int .u8 (b.toNat : Int)] 5)) :=
  conv_at _ _ b ((RowAt.new W [.int .u8 (b.toNat : Int)] 5).cell 0)
theorem conv1d (W : World) (b : UInt8) : (convert 50 9 (.slice (some ⟨W.heap.size, 0, none⟩) 1 1)).run Try.prog (W.alloc (.cells #[.int .u8 (b.toNat : Int)] 5)).drew = .ok (.string ⟨#[b]⟩) (W.alloc (.cells #[.int .u8 (b.toNat : Int)] 5)).drew :=
  conv_at _ _ b ((RowAt.new W [.int .u8 (b.toNat : Int)] 5).cell 0)
theorem stepB1 (bd : Bool) (b : UInt8) (h : b = 245) : stepC ⟨[], bd, 0⟩ b = (⟨[b], false, 0⟩, []) := by subst h; rfl
theorem stepB2 (b : UInt8) (h : ¬ b = 245) : stepC ⟨[], true, 0⟩ b = (⟨[], true, 0⟩, []) := by
  unfold stepC; simp [h]
theorem stepB3 (b : UInt8) (h : ¬ b = 245) : stepC ⟨[], false, 0⟩ b = (⟨[], true, 0⟩, [(2, [])]) := by
  unfold stepC; simp [h]
theorem byte_eq {x : UInt8} (h : x = 245) : ((x.toNat : Int) == 245) = true := by subst h; rfl
theorem byte_ne2 {x : UInt8} (h : ¬ x = 245) : ((x.toNat : Int) == 245) = false := by
  have : x.toNat ≠ 245 := fun e => h (UInt8.toNat_inj.1 e)
  simp; omega
set_option maxHeartbeats 1000000 in
theorem begin_any (g M : Nat) (c : Ct) (ps : List PcT) (b : UInt8) (W : World) (hg : g < M) (hM : M ≤ W.heap.size) (hk : Kn W g M c ps) (hl : ps.length ≤ 4398046511104) (hr : c.rest = []) (hs : c.skip = 0) :
    Calls Try.prog 21 #[.pointer (some ⟨g, 0, none⟩), .int .u8 (b.toNat : Int)] W fun e W' => e = .returned (.tuple #[]) ∧ Kn W' g M (stepC c b).1 (ps ++ (stepC c b).2) ∧ Kp g M W W' := by
  obtain ⟨r, bd, s⟩ := c
  simp only at hr hs
  subst hr hs
  obtain ⟨V, x0, x1, x2, x3, xf, hlt⟩ := hk.cells
  by_cases hb : b = 245
  · have hcv := conv1 W b
    rw [stepB1 bd b hb, List.append_nil]
    have q := byte_eq hb
    clear hb
    have hk1 := ((hk.set0 hg [b]).set1 hg false).below (below_new (Below.refl _ _) (.cells #[.int .u8 (b.toNat : Int)] 5))
    have hm1 : M ≤ (W.setCell ⟨g, 0, none⟩ (.string ⟨[b].toArray⟩)).heap.size := by rw [size_set]; exact hM
    have hp1 := ((kp_set (g := g) W 0 (.string ⟨[b].toArray⟩) hM).trans (kp_set (g := g) _ 1 (.bool false) hm1)).trans (Kp.below (g := g) (by rw [size_set]; exact hm1) (below_new (Below.refl _ _) (.cells #[.int .u8 (b.toNat : Int)] 5)))
    have HK1 : Hid (Kn _ _ _ _ _) := hk1
    have HP1 : Hid (Kp _ _ _ _) := hp1
    clear hk1 hp1 hk
    go_enter Try.func21, Try.ntmps21
    go_wp2_with fail
    go_returns
    exact ⟨rfl, HK1.out, HP1.out⟩
  · have q := byte_ne2 hb
    cases bd
    · rw [stepB3 b hb]
      clear hb
      have hk1 := hk.set1 hg true
      have ct := tell_any g M ⟨[], true, 0⟩ ps 2 [] _ hg (by rw [size_set]; exact hM) hk1 hl
      have hp1 := kp_set (g := g) W 1 (.bool true) hM
      clear hk hk1
      go_enter Try.func21, Try.ntmps21
      go_wp2_with fail
      go_at_call 25; refine ct.mono ?_; rintro e w1 ⟨rfl, hk2, hp2⟩
      go_wp2_with fail
      go_returns
      exact ⟨rfl, hk2, hp1.trans hp2⟩
    · rw [stepB2 b hb, List.append_nil]
      clear hb
      go_enter Try.func21, Try.ntmps21
      go_wp2_with fail
      go_returns
      exact ⟨rfl, hk, Kp.refl _ _ _⟩
theorem bytes_cat (a b : List UInt8) : (⟨a.toArray⟩ : ByteArray) ++ ⟨b.toArray⟩ = ⟨(a ++ b).toArray⟩ := by
  apply ByteArray.ext
  simp
theorem drop3 (z : List UInt8) (h : 3 ≤ z.length) : (⟨z.toArray⟩ : ByteArray).extract 3 z.length = ⟨(z.drop 3).toArray⟩ := by
  apply ByteArray.ext
  simp
  rw [List.take_of_length_le (by simp)]
theorem stepG (r : List UInt8) (b : UInt8) (h : 1 ≤ r.length) : stepC ⟨r, false, 0⟩ b = if (r ++ [b]).length < 3 then (⟨r ++ [b], false, 0⟩, []) else if fitN (toldN (r ++ [b])) = false then (⟨[], false, toldN (r ++ [b])⟩, [(3, [])]) else if (r ++ [b]).length = 3 + toldN (r ++ [b]) then (⟨[], false, 0⟩, [(1, (r ++ [b]).drop 3)]) else (⟨r ++ [b], false, 0⟩, []) := by
  have hl : (r ++ [b]).length = r.length + 1 := by simp
  have hne : r.isEmpty = false := by cases r; simp at h; rfl
  rw [hl]
  unfold stepC
  simp only [Int.lt_irrefl, if_false, hne, Bool.false_eq_true]
set_option maxHeartbeats 4000000 in
theorem goOn_any (g M : Nat) (c : Ct) (ps : List PcT) (b : UInt8) (W : World) (hg : g < M) (hM : M ≤ W.heap.size) (hk : Kn W g M c ps) (hl : ps.length ≤ 4398046511104) (hr : 1 ≤ c.rest.length ∧ c.rest.length ≤ 66) (hb : c.bad = false) (hs : c.skip = 0) :
    Calls Try.prog 22 #[.pointer (some ⟨g, 0, none⟩), .int .u8 (b.toNat : Int)] W fun e W' => e = .returned (.tuple #[]) ∧ Kn W' g M (stepC c b).1 (ps ++ (stepC c b).2) ∧ Kp g M W W' := by
  obtain ⟨r, bd, s⟩ := c
  simp only at hr hb hs
  subst hb hs
  have HS : Hid (stepC ⟨r, false, 0⟩ b = _) := stepG r b hr.1
  generalize stepC ⟨r, false, 0⟩ b = S at HS ⊢
  obtain ⟨V, x0, x1, x2, x3, xf, hlt⟩ := hk.cells
  simp only at x0 x1 x2
  have hcv := conv1 W b
  have hcd := conv1d W b
  have hri : (r.length : Int) ≤ 66 := by omega
  have hcat : (⟨r.toArray⟩ : ByteArray) ++ ⟨#[b]⟩ = ⟨(r ++ [b]).toArray⟩ := bytes_cat r [b]
  have hzl : 2 ≤ (r ++ [b]).length ∧ (r ++ [b]).length ≤ 67 := by simp; omega
  have hd3 := drop3 (r ++ [b])
  have hY := ((hk.set0 hg (r ++ [b])).below (below_drew (below_new (Below.refl _ _) (.cells #[.int .u8 (b.toNat : Int)] 5))))
  have hP : Kp g M W ((W.setCell ⟨g, 0, none⟩ (.string ⟨(r ++ [b]).toArray⟩)).alloc (.cells #[.int .u8 (b.toNat : Int)] 5)).drew := (kp_set (g := g) W 0 (.string ⟨(r ++ [b]).toArray⟩) hM).trans (Kp.below (by rw [size_set]; exact hM) (below_drew (below_new (Below.refl _ _) _)))
  go_enter Try.func22, Try.ntmps22
  go_wp2_with fail
  go_region
  obtain ⟨Y, hYe⟩ : ∃ Y, Y = ((W.setCell ⟨g, 0, none⟩ (.string ⟨(r ++ [b]).toArray⟩)).alloc (.cells #[.int .u8 (b.toNat : Int)] 5)).drew := ⟨_, rfl⟩
  rw [← hYe] at hY hP ⊢
  clear hYe hcv hcd hcat hk x0 x1 x2 x3 xf V hlt hri hr
  generalize r ++ [b] = z at *
  have hM2 : M ≤ Y.heap.size := Nat.le_trans hM hP.size
  obtain ⟨V, x0, x1, x2, x3, xf, hlt⟩ := hY.cells
  simp only at x0 x1 x2
  have hzi : (z.length : Int) ≤ 67 := by omega
  by_cases h3 : z.length < 3
  · have d3 : decide ((z.length : Int) < 3) = true := decide_eq_true (by omega)
    have HV : Hid (S = (⟨z, false, 0⟩, [])) := by show _ = _; rw [HS.out, if_pos h3]
    go_wp2_with fail
    go_returns
    exact ⟨rfl, by rw [HV.out, List.append_nil]; exact hY, hP⟩
  · have d3 : decide ((z.length : Int) < 3) = false := decide_eq_false (by omega)
    have d3n : decide (z.length < 3) = false := decide_eq_false (by omega)
    have ct := fun W => toldBy_any z W (by omega) (by omega)
    have htl := toldN_lt z
    have cf := fun W => isFit_any (toldN z) W (by omega)
    have HT : Hid (S = if fitN (toldN z) = false then (⟨[], false, toldN z⟩, [(3, [])]) else if z.length = 3 + toldN z then (⟨[], false, 0⟩, [(1, z.drop 3)]) else (⟨z, false, 0⟩, [])) := by show _ = _; rw [HS.out, if_neg h3]
    have hd4 := hd3 (by omega)
    have h3i : (3 : Int) ≤ (z.length : Int) := by omega
    have h3n : 3 ≤ z.length := by omega
    clear HS hd3 h3
    generalize toldN z = T at *
    have hTi : (T : Int) ≤ 65535 := by omega
    generalize fitN T = B at *
    go_wp2_with fail
    go_at_call 24; refine (ct _).mono ?_; rintro e w1 ⟨rfl, hb1⟩
    have hY1 := hY.below hb1
    have hP1 := hP.trans (Kp.below hM2 hb1)
    have hM3 : M ≤ w1.heap.size := Nat.le_trans hM2 hb1.size
    clear hY hP hM2 hb1 x0 x1 x2 x3 xf hlt V
    obtain ⟨V, x0, x1, x2, x3, xf, hlt⟩ := hY1.cells
    simp only at x0 x1 x2
    go_wp2_with fail
    go_at_call 18; refine (cf _).mono ?_; rintro e w2 ⟨rfl, rfl⟩
    cases B
    · have HV : Hid (S = (⟨[], false, T⟩, [(3, [])])) := by show _ = _; rw [HT.out]; rfl
      clear HT
      have hY2 := (hY1.set0 hg []).set2 hg (T : Int)
      have hP2 := (hP1.trans (kp_set (g := g) _ 0 (.string ⟨#[]⟩) hM3)).trans (kp_set (g := g) _ 2 (.int .i64 (T : Int)) (by rw [size_set]; exact hM3))
      have cl := tell_any g M ⟨[], false, T⟩ ps 3 [] _ hg (by rw [size_set, size_set]; exact hM3) hY2 hl
      clear hY1 hY2
      go_wp2_with fail
      go_at_call 25; refine cl.mono ?_; rintro e w3 ⟨rfl, hk2, hp2⟩
      go_wp2_with fail
      go_returns
      exact ⟨rfl, by rw [HV.out]; exact hk2, hP2.trans hp2⟩
    · by_cases he : z.length = 3 + T
      · have HV : Hid (S = (⟨[], false, 0⟩, [(1, z.drop 3)])) := by show _ = _; rw [HT.out, if_neg (by simp), if_pos he]
        have d5 : ((z.length : Int) == 3 + (T : Int)) = true := by rw [he]; simp
        clear HT he
        have cl := tell_any g M ⟨z, false, 0⟩ ps 1 (z.drop 3) _ hg hM3 hY1 hl
        go_wp2_with fail
        go_at_call 25; refine cl.mono ?_; rintro e w3 ⟨rfl, hk2, hp2⟩
        have hY3 := hk2.set0 hg []
        have hP3 := (hP1.trans hp2).trans (kp_set (g := g) w3 0 (.string ⟨#[]⟩) (Nat.le_trans hM3 hp2.size))
        clear hY1 x0 x1 x2 x3 xf hlt V
        obtain ⟨V, x0, x1, x2, x3, xf, hlt⟩ := hk2.cells
        simp only at x0 x1 x2
        go_wp2_with fail
        go_returns
        exact ⟨rfl, by rw [HV.out]; exact hY3, hP3⟩
      · have HV : Hid (S = (⟨z, false, 0⟩, [])) := by show _ = _; rw [HT.out, if_neg (by simp), if_neg he]
        have d5 : ((z.length : Int) == 3 + (T : Int)) = false := by simp; omega
        clear HT
        go_wp2_with fail
        go_returns
        exact ⟨rfl, by rw [HV.out, List.append_nil]; exact hY1, hP1⟩
theorem stepS (c : Ct) (b : UInt8) (h : 0 < c.skip) : stepC c b = (⟨c.rest, c.bad, c.skip - 1⟩, []) := by unfold stepC; rw [if_pos h]
set_option maxHeartbeats 1000000 in
theorem come_any (g M : Nat) (c : Ct) (ps : List PcT) (b : UInt8) (W : World) (hg : g < M) (hM : M ≤ W.heap.size) (hk : Kn W g M c ps) (hl : ps.length ≤ 4398046511104) (hc : okC c = true) :
    Calls Try.prog 15 #[.pointer (some ⟨g, 0, none⟩), .int .u8 (b.toNat : Int)] W fun e W' => e = .returned (.tuple #[]) ∧ Kn W' g M (stepC c b).1 (ps ++ (stepC c b).2) ∧ Kp g M W W' := by
  obtain ⟨h1, h2, h3, h4⟩ := (okC_iff c).1 hc
  have hrl := rest_le hc
  obtain ⟨V, x0, x1, x2, x3, xf, hlt⟩ := hk.cells
  by_cases hs : 0 < c.skip
  · rw [stepS c b hs, List.append_nil]
    have d : decide (0 < c.skip) = true := decide_eq_true hs
    have hk1 := hk.set2 hg (c.skip - 1)
    have hp1 := kp_set (g := g) W 2 (.int .i64 (c.skip - 1)) hM
    obtain ⟨hlo, hhi⟩ := h2
    generalize c.skip = s at *
    go_enter Try.func15, Try.ntmps15
    go_wp2_with fail
    go_returns
    exact ⟨rfl, hk1, hp1⟩
  · have hs0 : c.skip = 0 := by omega
    rw [hs0] at x2
    cases hr : c.rest with
    | nil =>
      have cb := begin_any g M c ps b W hg hM hk hl hr hs0
      rw [hr] at x0
      clear hs0 hr hs h1 h2 h3 h4
      go_enter Try.func15, Try.ntmps15
      go_wp2_with fail
      go_at_call 21; refine cb.mono ?_; rintro e w1 ⟨rfl, hk2, hp2⟩
      go_wp2_with fail
      go_returns
      exact ⟨rfl, hk2, hp2⟩
    | cons y t =>
      have hne : c.rest ≠ [] := by rw [hr]; simp
      have cb := goOn_any g M c ps b W hg hM hk hl ⟨by rw [hr]; simp, hrl⟩ (h3 hne).1 hs0
      have hemp : c.rest.isEmpty = false := by rw [hr]; rfl
      clear hs0 hr hs h1 h2 h3 h4 hne
      generalize c.rest = r at x0 hemp
      go_enter Try.func15, Try.ntmps15
      go_wp2_with fail
      go_at_call 22; refine cb.mono ?_; rintro e w1 ⟨rfl, hk2, hp2⟩
      go_wp2_with fail
      go_returns
      exact ⟨rfl, hk2, hp2⟩
end Go.Proofs.Ytkmchoipddaohaa.Cut
