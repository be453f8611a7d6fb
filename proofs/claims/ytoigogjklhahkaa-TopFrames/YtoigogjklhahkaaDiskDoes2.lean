/- What disk.does returns. -/
import Derived.Test.YtoigogjklhahkaaDiskDoes
import Derived.Laws.ResultCell
set_option linter.unusedVariables false
namespace Go.Proofs.Ytoigogjklhahkaa.Disk
open Go.RowKit Go.Shelf

/-- a result's variable, not stored yet -/
def RBox (W : World) (b : Nat) : Prop := W.heap[b]? = some (.cells #[.slice none 0 0, .slice none 0 0, .int .i64 0, .bool false] 30)
theorem RBox.lt {W : World} {b : Nat} (h : RBox W b) : b < W.heap.size := (Array.getElem?_eq_some_iff.1 h).1
theorem RBox.below {W W' : World} {b : Nat} (h : RBox W b) (hb : Below W.heap.size W W') : RBox W' b := (hb.block b h.lt).trans h
theorem RBox.kept {W W' : World} {b : Nat} {r : Option Nat} (h : RBox W b) (hg : W.grownBy W' r) (hne : some b ≠ r) : RBox W' b := (hg.block b h.lt hne).trans h
theorem RBox.cells {W : World} {b : Nat} (h : RBox W b) : W.cell? ⟨b, 0, none⟩ = some (.slice none 0 0) ∧ W.cell? ⟨b, 1, none⟩ = some (.slice none 0 0) ∧ W.cell? ⟨b, 2, none⟩ = some (.int .i64 0) ∧ W.cell? ⟨b, 3, none⟩ = some (.bool false) ∧ ∀ k, W.frozen? ⟨b, k, none⟩ = false := by
  unfold RBox at h
  refine ⟨?_, ?_, ?_, ?_, fun k => ?_⟩ <;> simp [World.cell?, World.frozen?, h]
theorem RBox.nostr {W : World} {b : Nat} (h : RBox W b) (x : Nat) (z : ByteArray) : W.cell? ⟨b, x, none⟩ ≠ some (.string z) := by
  unfold RBox at h
  have e : W.cell? ⟨b, x, none⟩ = #[Value.slice none 0 0, .slice none 0 0, .int .i64 0, .bool false][x]? := by
    simp only [World.cell?, h]; exact if_neg (by simp)
  rw [e]
  match x with
  | 0 => simp
  | 1 => simp
  | 2 => simp
  | 3 => simp
  | x + 4 => simp
theorem set4_grown (W : World) (b : Nat) (x y z u : Value) : W.grownBy ((((W.setCell ⟨b, 0, none⟩ x).setCell ⟨b, 1, none⟩ y).setCell ⟨b, 2, none⟩ z).setCell ⟨b, 3, none⟩ u) (some b) :=
  grown2 (grown2 (grown2 (grown_set _ _ _ _) (grown_set _ _ _ _)) (grown_set _ _ _ _)) (grown_set _ _ _ _)
theorem set4_below {w W : World} (h : Below w.heap.size w W) {b : Nat} (hb : w.heap.size ≤ b) (x y z u : Value) : Below w.heap.size w ((((W.setCell ⟨b, 0, none⟩ x).setCell ⟨b, 1, none⟩ y).setCell ⟨b, 2, none⟩ z).setCell ⟨b, 3, none⟩ u) :=
  (((h.setCell (p := ⟨b, 0, none⟩) hb x).setCell (p := ⟨b, 1, none⟩) hb y).setCell (p := ⟨b, 2, none⟩) hb z).setCell (p := ⟨b, 3, none⟩) hb u
def zeroD : Dk := ⟨[], [], 0, false⟩
theorem zeroD_has (W : World) : HasDk W (.agg #[.slice none 0 0, .slice none 0 0, .int .i64 0, .bool false]) zeroD := ⟨_, _, rfl, hasRow_nil _ _, hasRow_nil _ _⟩
/-- what comes of a disk that does something: itself and the error, or the zero disk -/
def outD (d : Dk) (r : Dk × Int) : Dk × Int := if okB d then r else (zeroD, 2)
def DiskIs (r : Dk × Int) (w : World) (e : Ending) (w' : World) : Prop := ∃ u, e = .returned (.tuple #[u, .int .i64 r.2]) ∧ HasDk w' u r.1 ∧ Below w.heap.size w w'
theorem grown_below {w W W' : World} {B : Nat} (h : Below w.heap.size w W) (hg : W.grownBy W' (some B)) (hB : w.heap.size ≤ B) : Below w.heap.size w W' :=
  h.grown hg h.size (fun k e => by injection e with e; omega)
theorem dk_set {W : World} {v : Value} {d : Dk} (h : HasDk W v d) {W' : World} (hb : Below W.heap.size W W') : HasDk W' v d := h.keep hb
set_option maxHeartbeats 2000000 in
theorem does_any (g : Nat) (lb : Array Value) (eg : ∀ args w, (callFunc g args).run Try.prog w = .ok (.enter g args) w) (d : Dk) (v : Value) (w : World) (h : HasDk w v d) (hf : Fits d) (r : Dk × Int)
    (hr : okB d = true → (∀ z ∈ r.1.secs, z.length ≤ 128) ∧ (∀ p ∈ r.1.cache, p.2.length ≤ 128) ∧ r.1.secs.length ≤ 1024 ∧ r.1.cache.length ≤ 5000)
    (hdeed : okB d = true → ∀ W B, Below w.heap.size w W → w.heap.size ≤ B → InBox W B d → Calls Try.prog g (#[.pointer (some ⟨B, 0, none⟩)] ++ lb) W fun e w' => e = .returned (.int .i64 r.2) ∧ InBox w' B r.1 ∧ W.grownBy w' (some B)) :
    Calls Try.prog 19 #[v, .func (.func g) #[] lb] w (DiskIs (outD d r) w) := by
  have cchk := fun W (hb : Below w.heap.size w W) => check_any d v W (h.keep hb) hf
  obtain ⟨s, c, rfl, hs, hc⟩ := h
  have hb2 : ∀ o1 o2 : Obj, Below w.heap.size w ((w.alloc o1).alloc o2) := fun o1 o2 => ((Below.refl _ w).alloc (Nat.le_refl _) o1).alloc (by simp) o2
  obtain ⟨so, sc, rfl, hs1, hs2⟩ := HasRow.slice hs
  obtain ⟨co, cc, rfl, hc1, hc2⟩ := HasRow.slice hc
  have HSC : Hid (HasStrs w (.slice so d.secs.length sc) d.secs ∧ HasPuts w (.slice co d.cache.length cc) d.cache) := ⟨hs, hc⟩
  have HR : Hid (okB d = true → (∀ z ∈ r.1.secs, z.length ≤ 128) ∧ (∀ p ∈ r.1.cache, p.2.length ≤ 128) ∧ r.1.secs.length ≤ 1024 ∧ r.1.cache.length ≤ 5000) := hr
  have HD : Hid (okB d = true → ∀ W B, Below w.heap.size w W → w.heap.size ≤ B → InBox W B d → Calls Try.prog g (#[.pointer (some ⟨B, 0, none⟩)] ++ lb) W fun e w' => e = .returned (.int .i64 r.2) ∧ InBox w' B r.1 ∧ W.grownBy w' (some B)) := hdeed
  obtain ⟨W0, hW0⟩ : ∃ W0, W0 = (w.alloc (.cells #[.slice so d.secs.length sc, .slice co d.cache.length cc, .int .i64 d.fuse, .bool d.off] 30)).alloc (.cells #[.slice none 0 0, .slice none 0 0, .int .i64 0, .bool false] 30) := ⟨_, rfl⟩
  have hB0 : Below w.heap.size w W0 := by rw [hW0]; exact hb2 _ _
  have hs0 : W0.heap.size = w.heap.size + 2 := by rw [hW0]; simp
  have hR0 : RBox W0 (w.heap.size + 1) := by
    have := heap_alloc_new (w.alloc (.cells #[.slice so d.secs.length sc, .slice co d.cache.length cc, .int .i64 d.fuse, .bool d.off] 30)) (.cells #[.slice none 0 0, .slice none 0 0, .int .i64 0, .bool false] 30)
    rw [World.size_alloc, ← hW0] at this
    exact this
  have hP0 : ∀ k, W0.cell? ⟨w.heap.size, k, none⟩ = #[Value.slice so d.secs.length sc, .slice co d.cache.length cc, .int .i64 d.fuse, .bool d.off][k]? := fun k => by
    rw [hW0, ((Below.refl _ (w.alloc (.cells #[.slice so d.secs.length sc, .slice co d.cache.length cc, .int .i64 d.fuse, .bool d.off] 30))).alloc (Nat.le_refl _) _).cell (p := ⟨w.heap.size, k, none⟩) (by simp)]
    simp only [World.cell?, heap_alloc_new]
    exact if_neg (by simp)
  clear hs hc hr hdeed hf
  cases hok : okB d with
  | false =>
    have HO : Hid (outD d r = (zeroD, 2)) := by show _ = _; unfold outD; rw [hok]; rfl
    rw [checkE_bad hok] at cchk
    clear hok
    go_enter Try.func19, Try.ntmps19
    go_wp2_with fail
    rw [← hW0]
    go_at_call 27; refine (cchk _ hB0).mono ?_; rintro e w1 ⟨rfl, hb⟩
    obtain ⟨q0, q1, q2, q3, qf⟩ := (hR0.below hb).cells
    have hbw := below2 hB0 hb
    clear hP0 hR0 hW0
    go_wp2
    (try simp only [Exit.inBlock, Exit.then])
    refine bodyPost_ret (v := .tuple #[.agg #[.slice none 0 0, .slice none 0 0, .int .i64 0, .bool false], .int .i64 2]) ?_ rfl (by rw [HO.out]; exact ⟨_, rfl, zeroD_has _, set4_below hbw (by omega) _ _ _ _⟩)
    rw [results_cell_tmp rfl]
    go_simp
  | true =>
    have HO : Hid (outD d r = r) := by show _ = _; unfold outD; rw [hok]; rfl
    rw [checkE_ok hok] at cchk
    have HD2 := HD.out hok
    have HR2 := HR.out hok
    clear hok HD HR
    go_enter Try.func19, Try.ntmps19
    go_wp2_with fail
    rw [← hW0]
    go_at_call 27; refine (cchk _ hB0).mono ?_; rintro e w1 ⟨rfl, hb⟩
    have hR1 := hR0.below hb
    have hP1 : ∀ k, w1.cell? ⟨w.heap.size, k, none⟩ = #[Value.slice so d.secs.length sc, .slice co d.cache.length cc, .int .i64 d.fuse, .bool d.off][k]? := fun k => ((bcell hb).1 _ _ (by omega)).trans (hP0 k)
    have hbw := below2 hB0 hb
    have k0 := hP1 0
    have k1 := hP1 1
    have k2 := hP1 2
    have k3 := hP1 3
    simp only [List.getElem?_toArray, List.getElem?_cons_zero, List.getElem?_cons_succ] at k0 k1 k2 k3
    clear hP0 hR0 hW0 hP1
    obtain ⟨W1, hW1⟩ : ∃ W1, W1 = w1.alloc (.cells #[.slice so d.secs.length sc, .slice co d.cache.length cc, .int .i64 d.fuse, .bool d.off] 60) := ⟨_, rfl⟩
    have hbW : Below w.heap.size w W1 := by rw [hW1]; exact hbw.alloc hbw.size _
    have hbx : Box W1 w1.heap.size (.slice so d.secs.length sc) (.slice co d.cache.length cc) d.fuse d.off := by rw [hW1]; exact heap_alloc_new _ _
    have hR2 : RBox W1 (w.heap.size + 1) := by rw [hW1]; exact hR1.below ((Below.refl _ _).alloc (Nat.le_refl _) _)
    have cd := HD2 W1 w1.heap.size hbW hbw.size ⟨_, _, hbx, HSC.out.1.keep hbW, HSC.out.2.keep hbW⟩
    have hsz1 := hb.size
    go_wp2_with fail
    rw [← hW1]
    refine cd.mono ?_
    rintro e w2 ⟨rfl, ⟨s2, c2, hbx2, hs2', hc2'⟩, hg2⟩
    have cr := renew_any w1.heap.size s2 c2 r.1.fuse r.1.off r.1.secs r.1.cache w2 hbx2 hs2' hc2' HR2.1 HR2.2.1 HR2.2.2.1 HR2.2.2.2
    go_wp2_with fail
    go_at_call 36; refine cr.mono ?_; rintro e w3 ⟨s3, c3, rfl, hbx3, hs3, hc3, hg3⟩
    obtain ⟨so3, sc3, rfl, _, _⟩ := HasRow.slice hs3
    obtain ⟨co3, cc3, rfl, _, _⟩ := HasRow.slice hc3
    obtain ⟨j0, j1, j2, j3⟩ := hbx3.cells
    have hR3 := (hR2.kept hg2 (by simp; omega)).kept hg3 (by simp; omega)
    obtain ⟨q0, q1, q2, q3, qf⟩ := hR3.cells
    have HNS : Hid (∀ x z, w3.cell? ⟨w.heap.size + 1, x, none⟩ ≠ some (.string z)) := hR3.nostr
    have hbz : Below w.heap.size w w3 := grown_below (grown_below hbW hg2 hbw.size) hg3 hbw.size
    have HH : Hid (HasStrs w3 (.slice so3 r.1.secs.length sc3) r.1.secs ∧ HasPuts w3 (.slice co3 r.1.cache.length cc3) r.1.cache) := ⟨hs3, hc3⟩
    clear cr cd hs3 hc3 hs2' hc2' hW1 HD2 HR2
    go_wp2
    (try simp only [Exit.inBlock, Exit.then])
    refine bodyPost_ret (v := .tuple #[.agg #[.slice so3 r.1.secs.length sc3, .slice co3 r.1.cache.length cc3, .int .i64 r.1.fuse, .bool r.1.off], .int .i64 r.2]) ?_ rfl (by rw [HO.out]; exact ⟨_, rfl, ⟨_, _, rfl, HH.out.1.box HNS.out (set4_grown _ _ _ _ _ _), HH.out.2.box HNS.out (set4_grown _ _ _ _ _ _)⟩, set4_below hbz (by omega) _ _ _ _⟩)
    rw [results_cell_tmp rfl]
    go_simp
end Go.Proofs.Ytoigogjklhahkaa.Disk
