/- What the field's method not answers. -/
import Derived.Test.YtmkbijnndbgjgaaSpOrF
set_option linter.unusedVariables false
namespace Go.Proofs.Ytmkbijnndbgjgaa.Sp
open Go.RowKit Go.Shelf
open Go.Proofs.Ytmkbijnndbgjgaa.Lk (HasRow hasRow_own addr_add)
open Go.Proofs.Ytmkbijnndbgjgaa.Addr (wideN rightB hiN loN adV cmpN cmp_any cmp_le nextE prevE RowAt below2 below_drew below_new bset RowAt.lt RowAt.cell RowAt.frozen RowAt.below RowAt.drew RowAt.new RowAt.alloc RowAt.gkeep cells2 cells4 gset gbelow grefl gfinal)
attribute [-go_sem] Builtin.append_
theorem next_hf {six : Bool} {b : Nat} (h : b ≤ topN six) : (b = topN six ∧ (nextE six b).1 = 0 ∧ decide ((nextE six b).2 = 0) = false) ∨ (¬ b = topN six ∧ (nextE six b).1 = b + 1 ∧ decide ((nextE six b).2 = 0) = true) := by
  unfold nextE
  rw [if_pos ((top_lt _ _).2 h)]
  by_cases e : b = topN six
  · left; unfold topN at e ⊢; rw [if_pos e]; exact ⟨e, rfl, rfl⟩
  · right; unfold topN at e ⊢; rw [if_neg e]; exact ⟨e, rfl, rfl⟩
theorem prev_hs {six : Bool} {a f : Nat} (h : a ≤ topN six) : (decide ((prevE six a).2 = 0) = true → 0 < a ∧ (prevE six a).1 = a - 1) ∧ (decide ((prevE six a).2 = 0) = false → a = 0) := by
  unfold prevE
  rw [if_pos ((top_lt _ _).2 h)]
  by_cases e : a = 0
  · rw [if_pos e]; exact ⟨fun h => by simp at h, fun _ => e⟩
  · rw [if_neg e]; exact ⟨fun _ => ⟨by omega, rfl⟩, fun h => by simp at h⟩
theorem gr_row {X W W' : World} {b e sz k : Nat} {v : Value} {xs : List Value} (h : X.grownBy W (some b)) (hr : W.ownsRow X.heap.size e sz v k xs) (hg : W.grownBy W' v.ownBlock) : X.grownBy W' (some b) :=
  ⟨hg.os.trans h.os, hg.tape.trans h.tape, hg.output.trans h.output, Nat.le_trans h.size hg.size, fun j hj hn => (hg.block j (Nat.lt_of_lt_of_le hj h.size) (fun e => by have := (hr.lt j e.symm).1; omega)).trans (h.block j hj hn)⟩
/-- the boxes of a run of not, behind some spans -/
structure NotW (w X wr : World) (gf ga gr g : Nat) (six : Bool) (u : Value) (R : List Sp) (f t1 t2 : Nat) : Prop where
  ou : wr.ownsRow X.heap.size 130 4 u R.length (spCs R)
  gw : X.grownBy wr (some gr)
  rf : RowAt wr gf (fieldRow g) 123
  ra : RowAt wr ga [.int .u64 0, .int .u64 0, .int .u64 (t1 : Int), .int .u64 (t2 : Int)] 130
  rr : RowAt wr gr [.int .u64 (hiN f : Int), .int .u64 (loN f : Int)] 95
  bl : Below w.heap.size w wr
  ge : w.heap.size ≤ gr ∧ gr < X.heap.size ∧ gf ≠ gr ∧ ga ≠ gr ∧ gf < X.heap.size ∧ ga < X.heap.size
theorem NotW.below {w X W W' : World} {gf ga gr g : Nat} {six : Bool} {u : Value} {R : List Sp} {f t1 t2 : Nat} (h : NotW w X W gf ga gr g six u R f t1 t2) (hb : Below W.heap.size W W') : NotW w X W' gf ga gr g six u R f t1 t2 := ⟨own_below h.ou hb, gbelow h.gw hb, h.rf.below hb, h.ra.below hb, h.rr.below hb, below2 h.bl hb, h.ge⟩
theorem row_set2a {W : World} {b : Nat} {x0 x1 : Value} {t : TypeId} (h : RowAt W b [x0, x1] t) (u v : Value) : RowAt ((W.setCell ⟨b, 0, none⟩ u).setCell ⟨b, 1, none⟩ v) b [u, v] t := by
  have hb : W.heap[b]? = some (.cells #[x0, x1] t (0, 0)) := h
  unfold RowAt
  simp [World.setCell, Array.getElem?_modify, hb]
theorem NotW.store {w X W Y : World} {gf ga gr g : Nat} {six : Bool} {u : Value} {R : List Sp} {f t1 t2 : Nat} (h : NotW w X W gf ga gr g six u R f t1 t2) (f2 : Nat) (hY : Y = (W.setCell ⟨gr, 0, none⟩ (.int .u64 (hiN f2 : Int))).setCell ⟨gr, 1, none⟩ (.int .u64 (loN f2 : Int))) : NotW w X Y gf ga gr g six u R f2 t1 t2 := by
  obtain ⟨h1, h2, h3, h4, h5, h6, g1, g2, g3, g4, g5, g6⟩ := h
  have hg : W.grownBy Y (some gr) := by rw [hY]; exact gset (gset (grefl _ _))
  refine ⟨h1.kept hg ?_, ?_, h3.gkeep hg (by simpa using g3), h4.gkeep hg (by simpa using g4), by rw [hY]; exact row_set2a h5 _ _, by rw [hY]; exact bset (bset h6 g1) g1, g1, g2, g3, g4, g5, g6⟩
  · exact .inr (fun e => by have := (h1.lt gr e).1; omega)
  · rw [hY]; exact gset (gset h2)
theorem NotW.app {w X W : World} {gf ga gr g : Nat} {six : Bool} {u : Value} {R : List Sp} {f t1 t2 : Nat} (h : NotW w X W gf ga gr g six u R f t1 t2) (s : Sp) (hb : R.length ≤ 1000000) :
    ∃ g3 cap w3, (∀ ty, (Builtin.append_ #[118, 118] ty #[u, .slice (some ⟨W.heap.size, 0, none⟩) 1 1]).run Try.prog (W.alloc (.cells #[.int .u64 (hiN s.1 : Int), .int .u64 (loN s.1 : Int), .int .u64 (hiN s.2 : Int), .int .u64 (loN s.2 : Int)] 130)) = .ok (.slice (some ⟨g3, 0, none⟩) (R.length + 1) cap) w3) ∧ NotW w X w3 gf ga gr g six (.slice (some ⟨g3, 0, none⟩) (R.length + 1) cap) (R ++ [s]) f t1 t2 ∧ (∀ b cs t, RowAt W b cs t → (∀ k, u.ownBlock = some k → k ≠ b) → RowAt w3 b cs t) := by
  obtain ⟨g3, cap, w3, hrun, ho, hg⟩ := app_in h.ou s hb h.gw.size
  have hk := h.below (below_new (Below.refl _ W) (.cells #[.int .u64 (hiN s.1 : Int), .int .u64 (loN s.1 : Int), .int .u64 (hiN s.2 : Int), .int .u64 (loN s.2 : Int)] 130))
  obtain ⟨h1, h2, h3, h4, h5, h6, g1, g2, g3', g4, g5, g6⟩ := hk
  have hne : ∀ b, b < X.heap.size → some b ≠ u.ownBlock := fun b hb e => by have := (h1.lt b e.symm).1; omega
  refine ⟨g3, cap, w3, hrun, ⟨by rw [show R.length + 1 = (R ++ [s]).length by simp]; rw [show R.length + 1 = (R ++ [s]).length by simp] at ho; exact ho, gr_row h2 h1 hg, h3.gkeep hg (hne _ g5), h4.gkeep hg (hne _ g6), h5.gkeep hg (hne _ g2), ?_, g1, g2, g3', g4, g5, g6⟩, fun b cs t hr hn => (hr.alloc _).gkeep hg (fun e => hn b e.symm rfl)⟩
  exact h6.grown hg h6.size (fun k e => by have := (h1.lt k e).1; omega)
end Go.Proofs.Ytmkbijnndbgjgaa.Sp
