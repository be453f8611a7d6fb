/- What the document's Write of disks returns. -/
import Derived.Test.YtbikcpchlgmoaaaDiskRef2
set_option linter.unusedVariables false
namespace Go.Proofs.Ytbikcpchlgmoaaa.Disk
open Go.RowKit Go.Shelf
attribute [-go_sem] Builtin.append_

/-- the disk in its variable, with rows of its own, and the result's variable beside it -/
structure Own2 (w Y : World) (d : Dk) (so co : Option Addr) (sc cc : Nat) : Prop where
  box : VBox Y w.heap.size (.slice so d.secs.length sc) (.slice co d.cache.length cc) (.int .i64 d.fuse) (.bool d.off)
  res : RBox Y (w.heap.size + 1)
  secs : Y.ownsRow (w.heap.size + 2) 9 1 (.slice so d.secs.length sc) d.secs.length (d.secs.map strV)
  puts : Y.ownsRow (w.heap.size + 2) 67 2 (.slice co d.cache.length cc) d.cache.length (putCs d.cache)
  below : Below w.heap.size w Y
theorem Own2.has {w Y : World} {d : Dk} {so co : Option Addr} {sc cc : Nat} (h : Own2 w Y d so co sc cc) (x y z u : Value) :
    HasDk ((((Y.setCell ⟨w.heap.size + 1, 0, none⟩ x).setCell ⟨w.heap.size + 1, 1, none⟩ y).setCell ⟨w.heap.size + 1, 2, none⟩ z).setCell ⟨w.heap.size + 1, 3, none⟩ u) (.agg #[.slice so d.secs.length sc, .slice co d.cache.length cc, .int .i64 d.fuse, .bool d.off]) d := by
  have hs : HasStrs Y (.slice so d.secs.length sc) d.secs := hasRow_own h.secs
  have hp : HasPuts Y (.slice co d.cache.length cc) d.cache := hasRow_own h.puts
  exact ⟨_, _, rfl, hs.box h.res.nostr (set4_grown _ _ _ _ _ _), hp.box h.res.nostr (set4_grown _ _ _ _ _ _)⟩
/-- a store into one field of the variable -/
theorem Own2.set2 {w Y : World} {d : Dk} {so co : Option Addr} {sc cc : Nat} (h : Own2 w Y d so co sc cc) (f : Int) : Own2 w (Y.setCell ⟨w.heap.size, 2, none⟩ (.int .i64 f)) ⟨d.secs, d.cache, f, d.off⟩ so co sc cc :=
  ⟨heap_setCell_same Y w.heap.size 2 _ _ _ h.box, h.res.kept (grown_set _ _ _ _) (by simp), h.secs.kept (grown_set _ _ _ _) (by
    cases so with
    | none => exact .inl rfl
    | some a => exact .inr (by have := (h.secs.lt a.block rfl).1; simp [Value.ownBlock]; omega)), h.puts.kept (grown_set _ _ _ _) (by
    cases co with
    | none => exact .inl rfl
    | some a => exact .inr (by have := (h.puts.lt a.block rfl).1; simp [Value.ownBlock]; omega)), h.below.setCell (p := ⟨w.heap.size, 2, none⟩) (Nat.le_refl _) _⟩
theorem Own2.set3 {w Y : World} {d : Dk} {so co : Option Addr} {sc cc : Nat} (h : Own2 w Y d so co sc cc) (o : Bool) : Own2 w (Y.setCell ⟨w.heap.size, 3, none⟩ (.bool o)) ⟨d.secs, d.cache, d.fuse, o⟩ so co sc cc :=
  ⟨heap_setCell_same Y w.heap.size 3 _ _ _ h.box, h.res.kept (grown_set _ _ _ _) (by simp), h.secs.kept (grown_set _ _ _ _) (by
    cases so with
    | none => exact .inl rfl
    | some a => exact .inr (by have := (h.secs.lt a.block rfl).1; simp [Value.ownBlock]; omega)), h.puts.kept (grown_set _ _ _ _) (by
    cases co with
    | none => exact .inl rfl
    | some a => exact .inr (by have := (h.puts.lt a.block rfl).1; simp [Value.ownBlock]; omega)), h.below.setCell (p := ⟨w.heap.size, 3, none⟩) (Nat.le_refl _) _⟩
/-- what the document's calls do first: check, copy -/
theorem copied_in (d : Dk) (so co : Option Addr) (sc cc : Nat) (w : World) (hs : HasStrs w (.slice so d.secs.length sc) d.secs) (hc : HasPuts w (.slice co d.cache.length cc) d.cache) (hok : Ok d) :
    ∃ X, X = (w.alloc (.cells #[.slice so d.secs.length sc, .slice co d.cache.length cc, .int .i64 d.fuse, .bool d.off] 25)).alloc (.cells #[.slice none 0 0, .slice none 0 0, .int .i64 0, .bool false] 25) ∧
      Below w.heap.size w X ∧ (∀ w1, Below X.heap.size X w1 → VBox w1 w.heap.size (.slice so d.secs.length sc) (.slice co d.cache.length cc) (.int .i64 d.fuse) (.bool d.off) ∧ RBox w1 (w.heap.size + 1) ∧ Below w.heap.size w w1 ∧
        Calls Try.prog 8 #[.agg #[.slice so d.secs.length sc, .slice co d.cache.length cc, .int .i64 d.fuse, .bool d.off]] w1 fun e w2 => ∃ so2 sc2 co2 cc2, e = .returned (.agg #[.slice so2 d.secs.length sc2, .slice co2 d.cache.length cc2, .int .i64 d.fuse, .bool d.off]) ∧
          (VBox w2 w.heap.size (.slice so d.secs.length sc) (.slice co d.cache.length cc) (.int .i64 d.fuse) (.bool d.off)) ∧
          Own2 w ((((w2.setCell ⟨w.heap.size, 0, none⟩ (.slice so2 d.secs.length sc2)).setCell ⟨w.heap.size, 1, none⟩ (.slice co2 d.cache.length cc2)).setCell ⟨w.heap.size, 2, none⟩ (.int .i64 d.fuse)).setCell ⟨w.heap.size, 3, none⟩ (.bool d.off)) d so2 co2 sc2 cc2) := by
  refine ⟨_, rfl, ((Below.refl _ w).alloc (Nat.le_refl _) _).alloc (by simp) _, fun w1 hb => ?_⟩
  have hB0 : Below w.heap.size w ((w.alloc (.cells #[.slice so d.secs.length sc, .slice co d.cache.length cc, .int .i64 d.fuse, .bool d.off] 25)).alloc (.cells #[.slice none 0 0, .slice none 0 0, .int .i64 0, .bool false] 25)) := ((Below.refl _ w).alloc (Nat.le_refl _) _).alloc (by simp) _
  have va : VBox ((w.alloc (.cells #[.slice so d.secs.length sc, .slice co d.cache.length cc, .int .i64 d.fuse, .bool d.off] 25)).alloc (.cells #[.slice none 0 0, .slice none 0 0, .int .i64 0, .bool false] 25)) w.heap.size (.slice so d.secs.length sc) (.slice co d.cache.length cc) (.int .i64 d.fuse) (.bool d.off) := by
    have : VBox (w.alloc (.cells #[.slice so d.secs.length sc, .slice co d.cache.length cc, .int .i64 d.fuse, .bool d.off] 25)) w.heap.size (.slice so d.secs.length sc) (.slice co d.cache.length cc) (.int .i64 d.fuse) (.bool d.off) := heap_alloc_new _ _
    exact this.below ((Below.refl _ _).alloc (Nat.le_refl _) _)
  have vr : RBox ((w.alloc (.cells #[.slice so d.secs.length sc, .slice co d.cache.length cc, .int .i64 d.fuse, .bool d.off] 25)).alloc (.cells #[.slice none 0 0, .slice none 0 0, .int .i64 0, .bool false] 25)) (w.heap.size + 1) := by
    have := heap_alloc_new (w.alloc (.cells #[.slice so d.secs.length sc, .slice co d.cache.length cc, .int .i64 d.fuse, .bool d.off] 25)) (.cells #[.slice none 0 0, .slice none 0 0, .int .i64 0, .bool false] 25)
    rw [World.size_alloc] at this
    exact this
  have hbw := below2 hB0 hb
  have hz := hb.size
  simp at hz
  refine ⟨va.below hb, vr.below hb, hbw, ?_⟩
  refine (rcopy_any d _ w1 ⟨_, _, rfl, hs.keep hbw, hc.keep hbw⟩ (by have := hok.many; omega) (by have := hok.few; omega)).mono ?_
  rintro e w2 ⟨so2, sc2, co2, cc2, rfl, o1, o2, hb2⟩
  have v2 := (va.below hb).below hb2
  refine ⟨so2, sc2, co2, cc2, rfl, v2, v2.set _ _ _ _, ((vr.below hb).below hb2).kept (set4_grown _ _ _ _ _ _) (by simp), ?_, ?_, set4_below (below2 hbw hb2) (Nat.le_refl _) _ _ _ _⟩
  · exact own_down (o1.kept (set4_grown _ _ _ _ _ _) (by
      cases so2 with
      | none => exact .inl rfl
      | some a => exact .inr (by have := (o1.lt a.block rfl).1; simp [Value.ownBlock]; omega))) (by omega)
  · exact own_down (o2.kept (set4_grown _ _ _ _ _ _) (by
      cases co2 with
      | none => exact .inl rfl
      | some a => exact .inr (by have := (o2.lt a.block rfl).1; simp [Value.ownBlock]; omega))) (by omega)
end Go.Proofs.Ytbikcpchlgmoaaa.Disk
