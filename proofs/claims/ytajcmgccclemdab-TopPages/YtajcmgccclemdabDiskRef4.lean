/- What the document's Write of disks returns. -/
import Derived.Test.YtajcmgccclemdabDiskRef3
set_option linter.unusedVariables false
namespace Go.Proofs.Ytajcmgccclemdab.Disk
open Go.RowKit Go.Shelf
attribute [-go_sem] Builtin.append_

theorem diskIs_own {w Y : World} {d r : Dk} {so co : Option Addr} {sc cc : Nat} {k : Int} {q : Dk × Int} (h : Own2 w Y d so co sc cc) (hq : q = (d, k)) :
    DiskIs q w (.returned (.tuple #[.agg #[.slice so d.secs.length sc, .slice co d.cache.length cc, .int .i64 d.fuse, .bool d.off], .int .i64 k]))
      ((((Y.setCell ⟨w.heap.size + 1, 0, none⟩ (.slice so d.secs.length sc)).setCell ⟨w.heap.size + 1, 1, none⟩ (.slice co d.cache.length cc)).setCell ⟨w.heap.size + 1, 2, none⟩ (.int .i64 d.fuse)).setCell ⟨w.heap.size + 1, 3, none⟩ (.bool d.off)) := by
  subst hq
  exact ⟨_, rfl, h.has _ _ _ _, set4_below h.below (by omega) _ _ _ _⟩

/-- rows of unlike elements lie apart -/
theorem own_apart {W : World} {m n e e' a b k l : Nat} {v u : Value} {xs ys : List Value} (h : W.ownsRow m e a v k xs) (g : W.ownsRow n e' b u l ys) (hne : e ≠ e') : v.ownBlock = none ∨ v.ownBlock ≠ u.ownBlock := by
  rcases h.2 with ⟨rfl, _⟩ | ⟨g1, cap, cur, rfl, h1, h2, h3⟩
  · exact .inl rfl
  · rcases g.2 with ⟨rfl, _⟩ | ⟨g2, cap2, cur2, rfl, i1, i2, i3⟩
    · exact .inr (by simp [Value.ownBlock])
    · refine .inr fun he => ?_
      simp [Value.ownBlock] at he
      subst he
      have := h2.symm.trans i2
      simp at this
      exact hne this.2
theorem Own2.app {w Y : World} {d : Dk} {so co : Option Addr} {sc cc : Nat} (h : Own2 w Y d so co sc cc) (p : PutT) (hl : d.cache.length ≤ 4096) :
    ∃ co' cc' Y3, (∀ ty, (Builtin.append_ #[26, 26] ty #[.slice co d.cache.length cc, .slice (some ⟨Y.heap.size, 0, none⟩) 1 1]).run Try.prog (Y.alloc (.cells #[.int .i64 p.1, strV p.2] 123)) = .ok (.slice co' (d.cache ++ [p]).length cc') Y3) ∧
      VBox Y3 w.heap.size (.slice so d.secs.length sc) (.slice co d.cache.length cc) (.int .i64 d.fuse) (.bool d.off) ∧
      Own2 w (Y3.setCell ⟨w.heap.size, 1, none⟩ (.slice co' (d.cache ++ [p]).length cc')) ⟨d.secs, d.cache ++ [p], d.fuse, d.off⟩ so co' sc cc' := by
  have hby : Below Y.heap.size Y (Y.alloc (.cells #[.int .i64 p.1, strV p.2] 123)) := (Below.refl _ _).alloc (Nat.le_refl _) _
  have hwz := h.below.size
  have hrz := h.res.lt
  have ho : (Y.alloc (.cells #[.int .i64 p.1, strV p.2] 123)).ownsRow (w.heap.size + 2) 123 2 (.slice co d.cache.length cc) d.cache.length (putCs d.cache) := h.puts.kept (grown_of hby) (by
    cases co with
    | none => exact .inl rfl
    | some a => exact .inr (by simp [Value.ownBlock]))
  have hp : HasPuts (Y.alloc (.cells #[.int .i64 p.1, strV p.2] 123)) (.slice (some ⟨Y.heap.size, 0, none⟩) 1 1) [p] :=
    puts_one _ _ p (by simp only [World.cell?, heap_alloc_new]; exact if_neg (by simp)) (by simp only [World.cell?, heap_alloc_new]; exact if_neg (by simp)) (by simp)
  obtain ⟨v', Y3, hr, ho3, hg⟩ := append_row info_put Try.underlying26 rfl (by decide) ho hp (one_puts [p]) (by simp; omega) (by simp; omega) (by simp; omega)
  rw [← putCs_app] at ho3
  have hlen : d.cache.length + [p].length = (d.cache ++ [p]).length := by simp
  rw [hlen] at ho3
  obtain ⟨co', cc', rfl, _, _⟩ := HasRow.slice (hasRow_own ho3)
  have hge : ∀ k, (Value.slice co d.cache.length cc).ownBlock = some k → w.heap.size + 2 ≤ k := fun k e => by
    cases co with
    | none => simp [Value.ownBlock] at e
    | some a => simp [Value.ownBlock] at e; have := (h.puts.lt a.block rfl).1; omega
  have hv : VBox Y3 w.heap.size (.slice so d.secs.length sc) (.slice co d.cache.length cc) (.int .i64 d.fuse) (.bool d.off) := (h.box.below hby).kept hg (fun e => by have := hge _ e.symm; omega)
  have hs0 := h.secs.kept (grown_of hby) (by
    cases so with
    | none => exact .inl rfl
    | some a => exact .inr (by simp [Value.ownBlock]))
  have hs3 := hs0.kept hg (own_apart hs0 ho (by decide))
  refine ⟨co', cc', Y3, hr, hv, heap_setCell_same Y3 w.heap.size 1 _ _ _ hv, ((h.res.below hby).kept hg (fun e => by have := hge _ e.symm; omega)).kept (grown_set _ _ _ _) (by simp), hs3.kept (grown_set _ _ _ _) ?_, ho3.kept (grown_set _ _ _ _) ?_, ((below2 h.below hby).grown hg (by simp; omega) (fun k e => by have := hge _ e; omega)).setCell (p := ⟨w.heap.size, 1, none⟩) (Nat.le_refl _) _⟩
  · cases so with
    | none => exact .inl rfl
    | some a => exact .inr (by have := (h.secs.lt a.block rfl).1; simp [Value.ownBlock]; omega)
  · cases co' with
    | none => exact .inl rfl
    | some a => exact .inr (by have := (ho3.lt a.block rfl).1; simp [Value.ownBlock]; omega)
end Go.Proofs.Ytajcmgccclemdab.Disk
