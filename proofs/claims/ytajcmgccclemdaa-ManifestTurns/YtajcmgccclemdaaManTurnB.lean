/- Manifests saved in turn: the variables of the law, and rows of rows of parts that come in. -/
import Derived.Test.YtajcmgccclemdaaManTurnM
import Derived.Test.YtajcmgccclemdaaManOpen
import Derived.Test.YtajcmgccclemdaaManSame
set_option linter.unusedVariables false
namespace Go.Proofs.Ytajcmgccclemdaa.Man
open Go.ChangeShapes Go.WideShapes Go.ChangeAt Go.RowKit
open Go.Proofs.Ytajcmgccclemdaa.Page
open Go.Proofs.Ytajcmgccclemdaa.Disk (Dk VDk VBox HasStrs HasPuts set4_grown set4_below HasDk)

theorem MBox.nostr {W : World} {b e : Nat} {o : Option Addr} {n c : Nat} (h : MBox W b e (.slice o n c)) (x : Nat) (z : ByteArray) : W.cell? ⟨b, x, none⟩ ≠ some (.string z) := by
  rw [RowAt.cell h]
  match x with
  | 0 => simp
  | 1 => simp
  | x + 2 => simp
theorem VDk.fuse {W : World} {b : Nat} {d : Dk} (h : VDk W b d) (f : Int) : VDk (W.setCell ⟨b, 2, none⟩ (.int .i64 f)) b ⟨d.secs, d.cache, f, d.off⟩ := by
  have hn := h.ne
  obtain ⟨so, sc, co, cc, h1, h2, h3⟩ := h
  have hg : W.grownBy (W.setCell ⟨b, 2, none⟩ (.int .i64 f)) (some b) := grown_cell _ _ _ _
  exact ⟨so, sc, co, cc, heap_setCell_same W b 2 _ _ _ h1, h2.box hn hg, h3.box hn hg⟩
theorem MBox.store {W : World} {b e : Nat} {v : Value} (h : MBox W b e v) (e' : Nat) (v' : Value) : MBox ((W.setCell ⟨b, 0, none⟩ (.int .u64 (e' : Int))).setCell ⟨b, 1, none⟩ v') b e' v' := by
  unfold MBox at *
  have h1 : RowAt (W.setCell ⟨b, 0, none⟩ (.int .u64 (e' : Int))) b [.int .u64 (e' : Int), v] 25 := by
    rw [h.setCell]; exact RowAt.set h _
  rw [h1.setCell]; exact RowAt.set h1 _
theorem set2_grown (W : World) (b : Nat) (x y : Value) : W.grownBy ((W.setCell ⟨b, 0, none⟩ x).setCell ⟨b, 1, none⟩ y) (some b) := grown2 (grown_cell _ _ _ _) (grown_cell _ _ _ _)
/-- the disk's variable and the manifest's -/
structure TAt (w W : World) (bd bw : Nat) (D : Dk) (was : ManT) (o : Option Addr) (c : Nat) : Prop where
  disk : VDk W bd D
  box : MBox W bw was.1 (.slice o was.2.length c)
  parts : HasParts w (.slice o was.2.length c) was.2
  below : Below w.heap.size w W
  d0 : w.heap.size ≤ bd
  w0 : w.heap.size ≤ bw
  ne : bd ≠ bw
theorem TAt.keep {w W W' : World} {bd bw : Nat} {D : Dk} {was : ManT} {o : Option Addr} {c : Nat} (h : TAt w W bd bw D was o c) (hb : Below W.heap.size W W') : TAt w W' bd bw D was o c :=
  ⟨h.disk.below hb, RowAt.below h.box hb, h.parts, below2 h.below hb, h.d0, h.w0, h.ne⟩
theorem TAt.fuse {w W : World} {bd bw : Nat} {D : Dk} {was : ManT} {o : Option Addr} {c : Nat} (h : TAt w W bd bw D was o c) (f : Int) : TAt w (W.setCell ⟨bd, 2, none⟩ (.int .i64 f)) bd bw ⟨D.secs, D.cache, f, D.off⟩ was o c :=
  ⟨VDk.fuse h.disk f, RowAt.grown' h.box (grown_cell _ _ _ _) (Ne.symm h.ne), h.parts, h.below.setCell (p := ⟨bd, 2, none⟩) h.d0 _, h.d0, h.w0, h.ne⟩
/-- the manifest's variable is given another one -/
theorem TAt.was {w W : World} {bd bw : Nat} {D : Dk} {was m : ManT} {o p : Option Addr} {c q : Nat} (h : TAt w W bd bw D was o c) (hp : HasParts w (.slice p m.2.length q) m.2) :
    TAt w ((W.setCell ⟨bw, 0, none⟩ (.int .u64 (m.1 : Int))).setCell ⟨bw, 1, none⟩ (.slice p m.2.length q)) bd bw D m p q :=
  ⟨h.disk.far h.box.nostr h.ne (set2_grown _ _ _ _), h.box.store _ _, hp, set2_below h.below h.w0 _ _, h.d0, h.w0, h.ne⟩
/-- another disk's variable, beside them -/
theorem far_was {W : World} {be bw e n c : Nat} {E : Dk} {o : Option Addr} (h : VDk W be E) (hm : MBox W bw e (.slice o n c)) (hne : be ≠ bw) (x y : Value) : VDk ((W.setCell ⟨bw, 0, none⟩ x).setCell ⟨bw, 1, none⟩ y) be E :=
  h.far hm.nostr hne (set2_grown _ _ _ _)
/-- the disk's variable is given another disk -/
theorem TAt.store {w W : World} {bd bw : Nat} {D r : Dk} {was : ManT} {o so co : Option Addr} {c sc cc : Nat} (h : TAt w W bd bw D was o c) (hs : HasStrs W (.slice so r.secs.length sc) r.secs) (hc : HasPuts W (.slice co r.cache.length cc) r.cache) :
    TAt w ((((W.setCell ⟨bd, 0, none⟩ (.slice so r.secs.length sc)).setCell ⟨bd, 1, none⟩ (.slice co r.cache.length cc)).setCell ⟨bd, 2, none⟩ (.int .i64 r.fuse)).setCell ⟨bd, 3, none⟩ (.bool r.off)) bd bw r was o c :=
  ⟨h.disk.store hs hc, RowAt.grown' h.box (set4_grown _ _ _ _ _ _) (Ne.symm h.ne), h.parts, set4_below h.below h.d0 _ _ _ _, h.d0, h.w0, h.ne⟩
/-- a store into a variable of its own -/
theorem TAt.beside {w W : World} {bd bw be : Nat} {D E : Dk} {was : ManT} {o : Option Addr} {c : Nat} (h : TAt w W bd bw D was o c) (he : VDk W be E) (h0 : w.heap.size ≤ be) (h1 : bd ≠ be) (h2 : bw ≠ be) (x y z u : Value) :
    TAt w ((((W.setCell ⟨be, 0, none⟩ x).setCell ⟨be, 1, none⟩ y).setCell ⟨be, 2, none⟩ z).setCell ⟨be, 3, none⟩ u) bd bw D was o c :=
  ⟨h.disk.far he.ne h1 (set4_grown _ _ _ _ _ _), RowAt.grown' h.box (set4_grown _ _ _ _ _ _) h2, h.parts, set4_below h.below h0 _ _ _ _, h.d0, h.w0, h.ne⟩
/-- rows of parts, in a row -/
def HasTab (W : World) (v : Value) (zs : List (List PartT)) (A : Nat → Option Addr) (C : Nat → Nat) : Prop :=
  ∃ o c, v = .slice o zs.length c ∧ zs.length ≤ 9223372036854775807 ∧ ∀ k (hk : k < zs.length), ∃ b i, o = some ⟨b, i, none⟩ ∧ b < W.heap.size ∧ W.cell? ⟨b, i + k, none⟩ = some (.slice (A k) zs[k].length (C k)) ∧ HasParts W (.slice (A k) zs[k].length (C k)) zs[k]
section
variable {H : Type} {enc : TypeId × Value → H} {W : World} {base : Nat} {spare : Nat → Bool} {held : Bool}
set_option maxRecDepth 100000 in
theorem open_parts_tab {v : Value} {fuel : Nat} {x : DataW H × List MemPlace} (h : DataW.trod enc Try.prog W base spare held fuel 45 [v] = some x) : ∃ (zs : List (List PartT)) (A : Nat → Option Addr) (C : Nat → Nat), HasTab W v zs A C ∧ ∀ ps ∈ zs, ∀ p ∈ ps, FitP p := by
  rcases Go.Deep.open_slice1 Try.underlying45 (by kernel_rfl) h with ⟨hcs, _⟩ | ⟨a, l, c, m, n, V, D, Pl, hcs, _, hl, hm, hmm, _, hx⟩
  · injection hcs with e; subst e
    exact ⟨[], fun _ => none, fun _ => 0, ⟨none, 0, rfl, by simp, fun k hk => by simp at hk⟩, by simp⟩
  · injection hcs with e; subst e
    have hlm : l ≤ m := by rw [hmm]; split <;> omega
    have hA : ∀ i, ∃ q : List PartT × Option Addr × Nat, i < l → W.cell? (a.add i) = some (.slice q.2.1 q.1.length q.2.2) ∧ HasParts W (.slice q.2.1 q.1.length q.2.2) q.1 ∧ ∀ p ∈ q.1, FitP p := fun i => by
      by_cases hi : i < l
      · obtain ⟨h1, h2⟩ := hx i (by omega)
        obtain ⟨ps, hp, hfit⟩ := open_parts_row (v := V i) h2
        obtain ⟨po, pc, ev, _, _⟩ := hp.form
        exact ⟨(ps, po, pc), fun _ => ⟨by rw [h1, ev], by rw [← ev]; exact hp, hfit⟩⟩
      · exact ⟨([], none, 0), fun h => absurd h hi⟩
    obtain ⟨F, hF⟩ := Classical.axiomOfChoice hA
    refine ⟨(List.range l).map (fun i => (F i).1), fun i => (F i).2.1, fun i => (F i).2.2, ⟨some a, c, by simp, by unfold maxLen at hm; simp; omega, fun k hk => ?_⟩, fun ps hps => ?_⟩
    · have hk2 : k < l := by simpa using hk
      obtain ⟨h1, h2, _⟩ := hF k hk2
      obtain ⟨b, i, sp⟩ := a
      have hsp : sp = none := by simpa [Addr.add] using World.cell?_spot (hF 0 (by omega)).1
      subst hsp
      rw [addr_add] at h1
      refine ⟨b, i, rfl, ?_, by simpa using h1, by simpa using h2⟩
      apply Decidable.byContradiction
      intro hn
      simp only [World.cell?] at h1
      rw [Array.getElem?_eq_none (by omega)] at h1
      simp at h1
    · obtain ⟨i, hi, rfl⟩ := List.mem_map.1 hps
      exact (hF i (List.mem_range.1 hi)).2.2
theorem open_ints_row {v : Value} {fuel : Nat} {x : DataW H × List MemPlace} (h : DataW.trod enc Try.prog W base spare held fuel 46 [v] = some x) : ∃ zs : List Int, Disk.HasRow W v 1 zs.length (zs.map (Value.int .i64)) ∧ ∀ n ∈ zs, -9223372036854775808 ≤ n ∧ n ≤ 9223372036854775807 := by
  rcases open_ints Try.underlying46 Try.underlying3 (by kernel_rfl) h with ⟨hcs, _⟩ | ⟨a, l, c, zs, hcs, _, hl, hm, hz, _, hcell, hwf⟩
  · injection hcs with e; subst e
    exact ⟨[], Disk.hasRow_nil _ _, by simp⟩
  · injection hcs with e; subst e
    have hlz : l ≤ zs.length := by rw [hz]; split <;> omega
    refine ⟨zs.take l, ?_, fun n hn => Disk.wf_i64 (hwf n (List.mem_of_mem_take hn))⟩
    rw [List.length_take, Nat.min_eq_left hlz]
    refine Disk.row_of (by decide) hl hm (by simp; omega) (fun j hj => ?_)
    have hj2 : j < l := by omega
    rw [hcell j (by omega), List.getElem?_map, List.getElem?_take, if_pos hj2, List.getD_eq_getElem?_getD, List.getElem?_eq_getElem (by omega)]
    rfl
end
/-- two of unlike epochs are not one -/
theorem msame_not (m n : ManT) (v u : Value) (w : World) (h1 : HasParts w v m.2) (h2 : HasParts w u n.2) (hf1 : m.1 < 18446744073709551616) (hf2 : n.1 < 18446744073709551616) (hne : m.1 ≠ n.1) :
    Calls Try.prog 16 #[.agg #[.int .u64 (m.1 : Int), v], .agg #[.int .u64 (n.1 : Int), u]] w fun e w' => e = .returned (.bool false) ∧ Below w.heap.size w w' := by
  obtain ⟨o, c, rfl, _, _⟩ := h1.form
  obtain ⟨p, q, rfl, _, _⟩ := h2.form
  have e1 : ((m.1 : Int) != (n.1 : Int)) = true := by rw [bne_iff_ne]; omega
  have e2 : ¬ ((m.1 : Int) = (n.1 : Int)) := by omega
  obtain ⟨X, hX⟩ : ∃ X, X = (w.alloc (.cells #[.int .u64 (m.1 : Int), .slice o m.2.length c] 25)).alloc (.cells #[.int .u64 (n.1 : Int), .slice p n.2.length q] 25) := ⟨_, rfl⟩
  have hB0 : Below w.heap.size w X := by rw [hX]; exact ((Below.refl _ w).alloc (Nat.le_refl _) _).alloc (by simp) _
  have m1 : MBox X w.heap.size m.1 (.slice o m.2.length c) := by rw [hX]; exact RowAt.alloc (RowAt.new w [_, _] _) _
  have m2 : MBox X (w.heap.size + 1) n.1 (.slice p n.2.length q) := by
    have := RowAt.new (w.alloc (.cells #[.int .u64 (m.1 : Int), .slice o m.2.length c] 25)) [.int .u64 (n.1 : Int), .slice p n.2.length q] 25
    rw [World.size_alloc, List.toArray, ← hX] at this
    exact this
  obtain ⟨a0, a1⟩ := m1.cells
  obtain ⟨b0, b1⟩ := m2.cells
  clear m1 m2 hne
  go_enter Try.func16, Try.ntmps16
  go_upto_region 1 with fail
  rw [← hX]
  clear hX
  first
    | (go_quiet (fail)
       go_wp2
       go_ret
       exact ⟨rfl, below_drewN hB0 _⟩)
    | (go_wp2
       go_ret
       exact ⟨rfl, hB0⟩)
end Go.Proofs.Ytajcmgccclemdaa.Man
