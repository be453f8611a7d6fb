/- A disk in a variable: what its box holds; the numbers of the law's 'lives'. -/
import Derived.Test.YtoigogjklhahkaaDiskMake2
import Derived.Test.YtoigogjklhahkaaDiskHolds
import Derived.Deep.DeepCutAuto
set_option linter.unusedVariables false
namespace Go.Proofs.Ytoigogjklhahkaa.Disk
open Go.RowKit Go.Shelf

/-- a variable that holds a disk -/
def VBox (W : World) (b : Nat) (x y z u : Value) : Prop := W.heap[b]? = some (.cells #[x, y, z, u] 30)
theorem VBox.lt {W : World} {b : Nat} {x y z u : Value} (h : VBox W b x y z u) : b < W.heap.size := (Array.getElem?_eq_some_iff.1 h).1
theorem VBox.cells {W : World} {b : Nat} {x y z u : Value} (h : VBox W b x y z u) : W.cell? ⟨b, 0, none⟩ = some x ∧ W.cell? ⟨b, 1, none⟩ = some y ∧ W.cell? ⟨b, 2, none⟩ = some z ∧ W.cell? ⟨b, 3, none⟩ = some u ∧ ∀ k, W.frozen? ⟨b, k, none⟩ = false := by
  unfold VBox at h
  refine ⟨?_, ?_, ?_, ?_, fun k => ?_⟩ <;> simp [World.cell?, World.frozen?, h]
theorem VBox.below {W W' : World} {b : Nat} {x y z u : Value} (h : VBox W b x y z u) (hb : Below W.heap.size W W') : VBox W' b x y z u := (hb.block b h.lt).trans h
theorem VBox.kept {W W' : World} {b : Nat} {x y z u : Value} {r : Option Nat} (h : VBox W b x y z u) (hg : W.grownBy W' r) (hne : some b ≠ r) : VBox W' b x y z u := (hg.block b h.lt hne).trans h
theorem VBox.set {W : World} {b : Nat} {x y z u : Value} (h : VBox W b x y z u) (x' y' z' u' : Value) : VBox ((((W.setCell ⟨b, 0, none⟩ x').setCell ⟨b, 1, none⟩ y').setCell ⟨b, 2, none⟩ z').setCell ⟨b, 3, none⟩ u') b x' y' z' u' := by
  unfold VBox at *
  have h1 := heap_setCell_same W b 0 _ _ x' h
  have h2 := heap_setCell_same _ b 1 _ _ y' h1
  have h3 := heap_setCell_same _ b 2 _ _ z' h2
  have h4 := heap_setCell_same _ b 3 _ _ u' h3
  exact h4
theorem VBox.nostr {W : World} {b : Nat} {a a' : Option Addr} {n n' k k' : Nat} {f : Int} {o : Bool} (h : VBox W b (.slice a n k) (.slice a' n' k') (.int .i64 f) (.bool o)) (x : Nat) (z : ByteArray) : W.cell? ⟨b, x, none⟩ ≠ some (.string z) := by
  unfold VBox at h
  have e : W.cell? ⟨b, x, none⟩ = #[Value.slice a n k, .slice a' n' k', .int .i64 f, .bool o][x]? := by
    simp only [World.cell?, h]; exact if_neg (by simp)
  rw [e]
  match x with
  | 0 => simp
  | 1 => simp
  | 2 => simp
  | 3 => simp
  | x + 4 => simp
/-- a variable that holds the disk d -/
def VDk (W : World) (b : Nat) (d : Dk) : Prop := ∃ so sc co cc, VBox W b (.slice so d.secs.length sc) (.slice co d.cache.length cc) (.int .i64 d.fuse) (.bool d.off) ∧ HasStrs W (.slice so d.secs.length sc) d.secs ∧ HasPuts W (.slice co d.cache.length cc) d.cache
theorem HasDk.parts {W : World} {v : Value} {d : Dk} (h : HasDk W v d) : ∃ so sc co cc, v = .agg #[.slice so d.secs.length sc, .slice co d.cache.length cc, .int .i64 d.fuse, .bool d.off] ∧ HasStrs W (.slice so d.secs.length sc) d.secs ∧ HasPuts W (.slice co d.cache.length cc) d.cache := by
  obtain ⟨s, c, rfl, hs, hc⟩ := h
  obtain ⟨so, sc, rfl, _, _⟩ := HasRow.slice hs
  obtain ⟨co, cc, rfl, _, _⟩ := HasRow.slice hc
  exact ⟨so, sc, co, cc, rfl, hs, hc⟩
theorem VDk.below {W W' : World} {b : Nat} {d : Dk} (h : VDk W b d) (hb : Below W.heap.size W W') : VDk W' b d := by
  obtain ⟨so, sc, co, cc, h1, h2, h3⟩ := h
  exact ⟨so, sc, co, cc, h1.below hb, h2.keep hb, h3.keep hb⟩
theorem VDk.ne {W : World} {b : Nat} {d : Dk} (h : VDk W b d) (x : Nat) (z : ByteArray) : W.cell? ⟨b, x, none⟩ ≠ some (.string z) := by
  obtain ⟨so, sc, co, cc, h1, h2, h3⟩ := h
  exact h1.nostr x z
theorem VDk.store {W : World} {b : Nat} {d : Dk} (h : VDk W b d) {r : Dk} {so co : Option Addr} {sc cc : Nat} (hs : HasStrs W (.slice so r.secs.length sc) r.secs) (hc : HasPuts W (.slice co r.cache.length cc) r.cache) :
    VDk ((((W.setCell ⟨b, 0, none⟩ (.slice so r.secs.length sc)).setCell ⟨b, 1, none⟩ (.slice co r.cache.length cc)).setCell ⟨b, 2, none⟩ (.int .i64 r.fuse)).setCell ⟨b, 3, none⟩ (.bool r.off)) b r := by
  have hn := h.ne
  obtain ⟨_, _, _, _, h1, h2, h3⟩ := h
  exact ⟨so, sc, co, cc, h1.set _ _ _ _, hs.box hn (set4_grown _ _ _ _ _ _), hc.box hn (set4_grown _ _ _ _ _ _)⟩
theorem VDk.far {W W' : World} {b b' : Nat} {d : Dk} (h : VDk W b d) (hn : ∀ x z, W.cell? ⟨b', x, none⟩ ≠ some (.string z)) (hne : b ≠ b') (hg : W.grownBy W' (some b')) : VDk W' b d := by
  obtain ⟨so, sc, co, cc, h1, h2, h3⟩ := h
  exact ⟨so, sc, co, cc, h1.kept hg (by simp; exact hne), h2.box hn hg, h3.box hn hg⟩
theorem VDk.new {W : World} {d : Dk} {so co : Option Addr} {sc cc : Nat} (hs : HasStrs W (.slice so d.secs.length sc) d.secs) (hc : HasPuts W (.slice co d.cache.length cc) d.cache) :
    VDk (W.alloc (.cells #[.slice so d.secs.length sc, .slice co d.cache.length cc, .int .i64 d.fuse, .bool d.off] 30)) W.heap.size d :=
  ⟨so, sc, co, cc, heap_alloc_new _ _, hs.keep ((Below.refl _ _).alloc (Nat.le_refl _) _), hc.keep ((Below.refl _ _).alloc (Nat.le_refl _) _)⟩
theorem VDk.drew {W : World} {b : Nat} {d : Dk} (h : VDk W b d) : VDk W.drew b d := h.below ((Below.refl _ W).drew)

def L1 : Dk := (makeD 2).1
def L2 : Dk := (outD L1 (writeD L1 1 (fullS 97))).1
def L3 : Dk := (outD L2 (flushD L2)).1
def L4 : Dk := (outD L3 (writeD L3 1 (fullS 98))).1
def L5 : Dk := (outD L4 (crashD L4 [] 0 1)).1
def L6 : Dk := ⟨L4.secs, L4.cache, 0, L4.off⟩
def L7 : Dk := (outD L6 (flushD L6)).1
theorem pair_of {α β : Type} {p : α × β} {a : α} {b : β} (h1 : a = p.1) (h2 : p.2 = b) : p = (a, b) := by rw [h1, ← h2]
theorem l1 : makeD 2 = (L1, 0) := pair_of (by rw [L1]) (by decide +kernel)
theorem l2 : outD L1 (writeD L1 1 (fullS 97)) = (L2, 0) := pair_of (by rw [L2]) (by decide +kernel)
theorem l3 : outD L2 (flushD L2) = (L3, 0) := pair_of (by rw [L3]) (by decide +kernel)
theorem l4 : outD L3 (writeD L3 1 (fullS 98)) = (L4, 0) := pair_of (by rw [L4]) (by decide +kernel)
theorem l5 : outD L4 (crashD L4 [] 0 1) = (L5, 0) := pair_of (by rw [L5]) (by decide +kernel)
theorem l4r : readD L4 1 = (fullS 98, 0) := by decide +kernel
theorem l5r : readD L5 1 = (98 :: List.replicate 127 97, 0) := by decide +kernel
theorem l4w : (outD L4 (writeD L4 2 (fullS 98))).2 = 1 := by decide +kernel
theorem l7 : outD L6 (flushD L6) = (L7, 9) := pair_of (by rw [L7]) (by decide +kernel)
theorem l7o : L7.off = true := by decide +kernel
theorem l7r : readD L7 1 = ([], 9) := by decide +kernel
theorem fits_of {d : Dk} (h : (decide (-9223372036854775808 ≤ d.fuse ∧ d.fuse ≤ 9223372036854775807) && d.secs.all (fun z => decide (z.length ≤ 9223372036854775807)) && d.cache.all (fun p => decide ((-9223372036854775808 ≤ p.1 ∧ p.1 ≤ 9223372036854775807) ∧ p.2.length ≤ 9223372036854775807))) = true) : Fits d := by
  simp only [Bool.and_eq_true, decide_eq_true_eq, List.all_eq_true] at h
  exact ⟨h.1.1, h.1.2, h.2⟩
theorem f1 : Fits L1 := fits_of (by decide +kernel)
theorem f2 : Fits L2 := fits_of (by decide +kernel)
theorem f3 : Fits L3 := fits_of (by decide +kernel)
theorem f4 : Fits L4 := fits_of (by decide +kernel)
theorem f5 : Fits L5 := fits_of (by decide +kernel)
theorem f6 : Fits L6 := fits_of (by decide +kernel)
theorem f7 : Fits L7 := fits_of (by decide +kernel)

theorem mk_i (w : World) : Calls Try.prog 6 #[.int .i64 2] w fun e w' => ∃ so sc co cc, e = .returned (.tuple #[.agg #[.slice so L1.secs.length sc, .slice co L1.cache.length cc, .int .i64 L1.fuse, .bool L1.off], .int .i64 0]) ∧ HasStrs w' (.slice so L1.secs.length sc) L1.secs ∧ HasPuts w' (.slice co L1.cache.length cc) L1.cache ∧ Below w.heap.size w w' := by
  refine (make_fn 2 w (by omega)).mono ?_
  rw [l1]
  rintro e w' ⟨u, rfl, hd, hb⟩
  obtain ⟨so, sc, co, cc, rfl, h1, h2⟩ := hd.parts
  exact ⟨so, sc, co, cc, rfl, h1, h2, hb⟩
/-- the form in which a disk comes back -/
def Back (r : Dk) (y : Int) (w : World) (e : Ending) (w' : World) : Prop := ∃ so sc co cc, e = .returned (.tuple #[.agg #[.slice so r.secs.length sc, .slice co r.cache.length cc, .int .i64 r.fuse, .bool r.off], .int .i64 y]) ∧ HasStrs w' (.slice so r.secs.length sc) r.secs ∧ HasPuts w' (.slice co r.cache.length cc) r.cache ∧ Below w.heap.size w w'
theorem back_of {r : Dk × Int} {w : World} {e : Ending} {w' : World} (h : DiskIs r w e w') : Back r.1 r.2 w e w' := by
  obtain ⟨u, rfl, hd, hb⟩ := h
  obtain ⟨so, sc, co, cc, rfl, h1, h2⟩ := hd.parts
  exact ⟨so, sc, co, cc, rfl, h1, h2, hb⟩
end Go.Proofs.Ytoigogjklhahkaa.Disk
