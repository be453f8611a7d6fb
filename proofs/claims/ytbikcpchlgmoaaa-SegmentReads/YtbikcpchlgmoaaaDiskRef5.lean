/- What the document's Flush of disks returns. -/
import Derived.Test.YtbikcpchlgmoaaaDiskRef4
set_option linter.unusedVariables false
namespace Go.Proofs.Ytbikcpchlgmoaaa.Disk
open Go.RowKit Go.Shelf

/-- the disk in its variable while its cache is settled -/
structure Own3 (w Y : World) (d : Dk) (g1 : Nat) (co : Option Addr) (n m sc cc : Nat) (f : Int) (S : List (List UInt8)) : Prop where
  box : VBox Y w.heap.size (.slice (some ⟨g1, 0, none⟩) n sc) (.slice co m cc) (.int .i64 f) (.bool false)
  res : RBox Y (w.heap.size + 1)
  secs : Y.ownsRow (w.heap.size + 2) 9 1 (.slice (some ⟨g1, 0, none⟩) n sc) n (S.map strV)
  puts : Y.ownsRow (w.heap.size + 2) 67 2 (.slice co m cc) m (putCs d.cache)
  below : Below w.heap.size w Y
theorem Own3.alloc {w Y : World} {d : Dk} {g1 : Nat} {co : Option Addr} {n m sc cc : Nat} {f : Int} {S : List (List UInt8)} (h : Own3 w Y d g1 co n m sc cc f S) (o : Obj) : Own3 w (Y.alloc o) d g1 co n m sc cc f S :=
  have hb : Below Y.heap.size Y (Y.alloc o) := (Below.refl _ _).alloc (Nat.le_refl _) _
  ⟨h.box.below hb, h.res.below hb, h.secs.alloc o, h.puts.alloc o, below2 h.below hb⟩
theorem Own3.drew {w Y : World} {d : Dk} {g1 : Nat} {co : Option Addr} {n m sc cc : Nat} {f : Int} {S : List (List UInt8)} (h : Own3 w Y d g1 co n m sc cc f S) : Own3 w Y.drew d g1 co n m sc cc f S :=
  have hb : Below Y.heap.size Y Y.drew := (Below.refl _ _).drew
  ⟨h.box.below hb, h.res.below hb, h.secs.drew, h.puts.drew, below2 h.below hb⟩
theorem Own3.put {w Y : World} {d : Dk} {g1 : Nat} {co : Option Addr} {n m sc cc : Nat} {f : Int} {S : List (List UInt8)} (h : Own3 w Y d g1 co n m sc cc f S) (k : Nat) (z : List UInt8) : Own3 w (Y.setCell ⟨g1, k, none⟩ (strV z)) d g1 co n m sc cc f (S.set k z) := by
  have hg := (h.secs.lt g1 rfl).1
  refine ⟨h.box.kept (grown_set _ _ _ _) (by simp; omega), h.res.kept (grown_set _ _ _ _) (by simp; omega), ?_, h.puts.kept (grown_set _ _ _ _) ?_, h.below.setCell (p := ⟨g1, k, none⟩) (by simp; omega) _⟩
  · have := (h.secs.stored k (strV z)).1
    rw [List.map_set]; exact this
  · have := own_apart h.puts h.secs (by decide)
    simpa [Value.ownBlock] using this
theorem Own3.done {w Y : World} {d : Dk} {g1 : Nat} {co : Option Addr} {n m sc cc : Nat} {f : Int} {S : List (List UInt8)} (h : Own3 w Y d g1 co n m sc cc f S) (hn : S.length = n) : Own2 w (Y.setCell ⟨w.heap.size, 1, none⟩ (.slice none 0 0)) ⟨S, [], f, false⟩ (some ⟨g1, 0, none⟩) none sc 0 := by
  subst hn
  have hg := (h.secs.lt g1 rfl).1
  exact ⟨heap_setCell_same Y w.heap.size 1 _ _ _ h.box, h.res.kept (grown_set _ _ _ _) (by simp), h.secs.kept (grown_set _ _ _ _) (.inr (by simp [Value.ownBlock]; omega)), ⟨by simp [putCs], .inl ⟨rfl, rfl⟩⟩, h.below.setCell (p := ⟨w.heap.size, 1, none⟩) (Nat.le_refl _) _⟩
end Go.Proofs.Ytbikcpchlgmoaaa.Disk
