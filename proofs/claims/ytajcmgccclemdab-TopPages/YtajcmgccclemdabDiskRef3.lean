/- What the document's Write of disks returns. -/
import Derived.Test.YtajcmgccclemdabDiskRef2
set_option linter.unusedVariables false
namespace Go.Proofs.Ytajcmgccclemdab.Disk
open Go.RowKit Go.Shelf
attribute [-go_sem] Builtin.append_

/-- the disk in its variable, with rows of its own, and the result's variable beside it -/
structure Own2 (w Y : World) (d : Dk) (so co : Option Addr) (sc cc : Nat) : Prop where
  box : VBox Y w.heap.size (.slice so d.secs.length sc) (.slice co d.cache.length cc) (.int .i64 d.fuse) (.bool d.off)
  res : RBox Y (w.heap.size + 1)
  secs : Y.ownsRow (w.heap.size + 2) 9 1 (.slice so d.secs.length sc) d.secs.length (d.secs.map strV)
  puts : Y.ownsRow (w.heap.size + 2) 123 2 (.slice co d.cache.length cc) d.cache.length (putCs d.cache)
  below : Below w.heap.size w Y
theorem Own2.has {w Y : World} {d : Dk} {so co : Option Addr} {sc cc : Nat} (h : Own2 w Y d so co sc cc) (x y z u : Value) :
    HasDk ((((Y.setCell ⟨w.heap.size + 1, 0, none⟩ x).setCell ⟨w.heap.size + 1, 1, none⟩ y).setCell ⟨w.heap.size + 1, 2, none⟩ z).setCell ⟨w.heap.size + 1, 3, none⟩ u) (.agg #[.slice so d.secs.length sc, .slice co d.cache.length cc, .int .i64 d.fuse, .bool d.off]) d := by
  have hs : HasStrs Y (.slice so d.secs.length sc) d.secs := hasRow_own h.secs
  have hp : HasPuts Y (.slice co d.cache.length cc) d.cache := hasRow_own h.puts
  exact ⟨_, _, rfl, hs.box h.res.nostr (set4_grown _ _ _ _ _ _), hp.box h.res.nostr (set4_grown _ _ _ _ _ _)⟩
/-- a store into one field of the variable -/
theorem Own2.set2 {w Y : World} {d : Dk} {so co : Option Addr} {sc cc : Nat} (h : Own2 w Y d so co sc cc) (f : Int) : Own2 w (Y.setCell ⟨w.heap.size, 2, none⟩ (.int .i64 f)) ⟨d.secs, d.cache, f, d.off⟩ so co sc cc :=
  ⟨heap_setCell_same Y w.heap.size 2 _ _ _ h.box, h.res.kept (grown_set _ _ _ _) (by simp), h.secs.kept (grown_set _ _ _ _) (by
    cases so with
    | none => exact .inl rfl
    | some a => exact .inr (by have := (h.secs.lt a.block rfl).1; simp [Value.ownBlock]; omega)), h.puts.kept (grown_set _ _ _ _) (by
    cases co with
    | none => exact .inl rfl
    | some a => exact .inr (by have := (h.puts.lt a.block rfl).1; simp [Value.ownBlock]; omega)), h.below.setCell (p := ⟨w.heap.size, 2, none⟩) (Nat.le_refl _) _⟩
theorem Own2.set3 {w Y : World} {d : Dk} {so co : Option Addr} {sc cc : Nat} (h : Own2 w Y d so co sc cc) (o : Bool) : Own2 w (Y.setCell ⟨w.heap.size, 3, none⟩ (.bool o)) ⟨d.secs, d.cache, d.fuse, o⟩ so co sc cc :=
  ⟨heap_setCell_same Y w.heap.size 3 _ _ _ h.box, h.res.kept (grown_set _ _ _ _) (by simp), h.secs.kept (grown_set _ _ _ _) (by
    cases so with
    | none => exact .inl rfl
    | some a => exact .inr (by have := (h.secs.lt a.block rfl).1; simp [Value.ownBlock]; omega)), h.puts.kept (grown_set _ _ _ _) (by
    cases co with
    | none => exact .inl rfl
    | some a => exact .inr (by have := (h.puts.lt a.block rfl).1; simp [Value.ownBlock]; omega)), h.below.setCell (p := ⟨w.heap.size, 3, none⟩) (Nat.le_refl _) _⟩
end Go.Proofs.Ytajcmgccclemdab.Disk
