/- For every disk, segment, tag, place and records, up to 1048576 values and letters in all: spoorlaw07.SegmentWrites returns true, and changes nothing that was there. -/
import Derived.Test.YtbikcpchlgmoaaaSwA
import Derived.Test.YtbikcpchlgmoaaaDiskRef
import Derived.Laws.StructEq
import Derived.Test.YtbikcpchlgmoaaaDiskOpen
import Derived.SizedLaws
import Derived.Test.YtbikcpchlgmoaaaWalkFrame
import Derived.Test.YtbikcpchlgmoaaaPageRef3
import Derived.Test.YtbikcpchlgmoaaaDiskRef4
import Derived.Test.YtbikcpchlgmoaaaPageRefPut
import Derived.Test.YtbikcpchlgmoaaaRows
import Derived.Test.YtbikcpchlgmoaaaPageBackM
import Derived.JoinedCond
import Derived.Deep.CondSized
import Derived.Deep.Strs
import Derived.ProofKit
import Derived.OpenShut
import Derived.ShutString
set_option linter.unusedVariables false
namespace Go.Proofs.Ytbikcpchlgmoaaa.Disk
open Go.RowKit Go.Shelf

theorem put_neq (pa : Int) (PD : ByteArray) (w : World) : (binOp .neq 67 (.agg #[.int .i64 pa, .string PD]) (.agg #[.int .i64 pa, .string PD])).run Try.prog w = .ok (.bool false) w := by
  have u3 := Try.underlying3
  have u9 := Try.underlying9
  have a3 := Try.isAgg3
  have z3 := Try.sizeOf3
  have a9 := Try.isAgg9
  have z9 := Try.sizeOf9
  have hS : Try.prog.underlying 67 = some (.struct (Try.prog.fieldsOf 67)) := by kernel_rfl
  have hp : Try.prog.stoodInHeld 67 = false := by kernel_rfl
  rw [run_neq_struct, show (10000 : Nat) = 9999 + 1 from rfl, run_equalIn_agg w 9999 67 _ _ hS hp]
  simp only [Program.fieldsOf, Try.underlying67]
  go_simp
theorem put_guard : Try.prog.eqGuardType Try.prog.depth 67 = false := by kernel_rfl
set_option maxHeartbeats 2000000 in
set_option maxRecDepth 20000 in
theorem rsame_any (d : Dk) (v u : Value) (w : World) (h1 : HasDk w v d) (h2 : HasDk w u d) (hs9 : d.secs.length ≤ 10000000000000) (hc9 : d.cache.length ≤ 10000000000000) :
    Calls Try.prog 16 #[v, u] w fun e w' => e = .returned (.bool true) ∧ Below w.heap.size w w' := by
  obtain ⟨so, sc, co, cc, rfl, hs, hc⟩ := h1.parts
  obtain ⟨so', sc', co', cc', rfl, hs', hc'⟩ := h2.parts
  obtain ⟨X, hX⟩ : ∃ X, X = (w.alloc (.cells #[.slice so d.secs.length sc, .slice co d.cache.length cc, .int .i64 d.fuse, .bool d.off] 25)).alloc (.cells #[.slice so' d.secs.length sc', .slice co' d.cache.length cc', .int .i64 d.fuse, .bool d.off] 25) := ⟨_, rfl⟩
  have hB0 : Below w.heap.size w X := by rw [hX]; exact ((Below.refl _ w).alloc (Nat.le_refl _) _).alloc (by simp) _
  have va : VBox X w.heap.size (.slice so d.secs.length sc) (.slice co d.cache.length cc) (.int .i64 d.fuse) (.bool d.off) := by
    rw [hX]
    have : VBox (w.alloc (.cells #[.slice so d.secs.length sc, .slice co d.cache.length cc, .int .i64 d.fuse, .bool d.off] 25)) w.heap.size (.slice so d.secs.length sc) (.slice co d.cache.length cc) (.int .i64 d.fuse) (.bool d.off) := heap_alloc_new _ _
    exact this.below ((Below.refl _ _).alloc (Nat.le_refl _) _)
  have vb : VBox X (w.heap.size + 1) (.slice so' d.secs.length sc') (.slice co' d.cache.length cc') (.int .i64 d.fuse) (.bool d.off) := by
    have := heap_alloc_new (w.alloc (.cells #[.slice so d.secs.length sc, .slice co d.cache.length cc, .int .i64 d.fuse, .bool d.off] 25)) (.cells #[.slice so' d.secs.length sc', .slice co' d.cache.length cc', .int .i64 d.fuse, .bool d.off] 25)
    rw [World.size_alloc, ← hX] at this
    exact this
  have HR : Hid (∀ wr, Below X.heap.size X wr → (HasStrs wr (.slice so d.secs.length sc) d.secs ∧ HasPuts wr (.slice co d.cache.length cc) d.cache) ∧ HasStrs wr (.slice so' d.secs.length sc') d.secs ∧ HasPuts wr (.slice co' d.cache.length cc') d.cache) := fun wr hb =>
    ⟨⟨(hs.keep hB0).keep hb, (hc.keep hB0).keep hb⟩, (hs'.keep hB0).keep hb, (hc'.keep hB0).keep hb⟩
  have HA : Hid (∀ wr, Below X.heap.size X wr → VBox wr w.heap.size (.slice so d.secs.length sc) (.slice co d.cache.length cc) (.int .i64 d.fuse) (.bool d.off) ∧ VBox wr (w.heap.size + 1) (.slice so' d.secs.length sc') (.slice co' d.cache.length cc') (.int .i64 d.fuse) (.bool d.off)) := fun wr hb => ⟨va.below hb, vb.below hb⟩
  have hneq := put_neq
  have hgd := put_guard
  have hn9 : (d.secs.length : Int) ≤ 10000000000000 := by omega
  have hm9 : (d.cache.length : Int) ≤ 10000000000000 := by omega
  obtain ⟨n, hn⟩ : ∃ n, n = d.secs.length := ⟨_, rfl⟩
  obtain ⟨m, hm⟩ : ∃ m, m = d.cache.length := ⟨_, rfl⟩
  have HN : Hid (n = d.secs.length) := hn
  have HM : Hid (m = d.cache.length) := hm
  simp only [← hn, ← hm] at HR HA hX hn9 hm9 ⊢
  obtain ⟨q0, q1, q2, q3, qf⟩ := (HA.out X (Below.refl _ _)).1.cells
  obtain ⟨r0, r1, r2, r3, rf⟩ := (HA.out X (Below.refl _ _)).2.cells
  clear hs hc hs' hc' h1 h2 va vb hn hm hs9 hc9
  have hdo : (d.off != d.off) = false := by simp
  have hdf : (d.fuse != d.fuse) = false := by simp
  have hnn : ((n : Int) != (n : Int)) = false := by simp
  have hmm : ((m : Int) != (m : Int)) = false := by simp
  go_enter Try.func16, Try.ntmps16
  go_upto_region 1 with fail
  rw [← hX]
  clear hX
  go_wp2_with fail
  go_loopw [40] (fun i wr => ∃ k : Nat, k ≤ n ∧ i = .int .i64 k ∧ Below X.heap.size X wr) (fun i _ => n - (intOf i).toNat)
  case atStart => exact ⟨0, by omega, rfl, Below.refl _ _⟩
  case round =>
    obtain ⟨k, hk, rfl, hB⟩ := hrel
    obtain ⟨⟨hsa, hca⟩, hsb, hcb⟩ := HR.out _ hB
    obtain ⟨x0, x1, x2, x3, xf⟩ := (HA.out _ hB).1.cells
    obtain ⟨y0, y1, y2, y3, yf⟩ := (HA.out _ hB).2.cells
    by_cases hlt : k < n
    · have hkz : k < d.secs.length := by rw [← HN.out]; exact hlt
      obtain ⟨g1, i1, rfl, _, c1⟩ := HasStrs.cell hsa k hkz
      obtain ⟨g2, i2, rfl, _, c2⟩ := HasStrs.cell hsb k hkz
      unfold strV at c1 c2
      generalize (⟨(d.secs[k]).toArray⟩ : ByteArray) = Z at c1 c2
      have hki : (k : Int) < (n : Int) := by omega
      clear hsa hca hsb hcb
      go_wp2_with fail
      go_quiet (fail)
      go_wp2_with fail
      go_roundw
      case rel => exact ⟨k + 1, by omega, by go_num, by first | exact hB | exact hB.drew | exact below_drewN hB _⟩
      case measure => simp [intOf]; omega
    · clear hsa hca hsb hcb
      obtain ⟨wa, hwa⟩ : ∃ wa, wa = wr := ⟨_, rfl⟩
      subst hwa
      go_wp2_with fail
      go_loopw [58] (fun i wr => ∃ j : Nat, j ≤ m ∧ i = .int .i64 j ∧ Below X.heap.size X wr) (fun i _ => m - (intOf i).toNat)
      case atStart => exact ⟨0, by omega, rfl, hB⟩
      case round =>
        obtain ⟨j, hj, rfl, hB2⟩ := hrel
        obtain ⟨⟨hsa, hca⟩, hsb, hcb⟩ := HR.out _ hB2
        obtain ⟨x0, x1, x2, x3, xf⟩ := (HA.out _ hB2).1.cells
        obtain ⟨y0, y1, y2, y3, yf⟩ := (HA.out _ hB2).2.cells
        by_cases hlt2 : j < m
        · have hjz : j < d.cache.length := by rw [← HM.out]; exact hlt2
          obtain ⟨g1, i1, rfl, _, c1, c2⟩ := HasPuts.cell hca j hjz
          obtain ⟨g2, i2, rfl, _, c3, c4⟩ := HasPuts.cell hcb j hjz
          unfold strV at c2 c4
          generalize (⟨(d.cache[j]).2.toArray⟩ : ByteArray) = Z at c2 c4
          generalize (d.cache[j]).1 = pa at c1 c3
          have hji : (j : Int) < (m : Int) := by omega
          clear hsa hca hsb hcb
          go_wp2_with fail
          go_quiet (fail)
          go_wp2_with fail
          go_roundw
          case rel => exact ⟨j + 1, by omega, by go_num, by first | exact hB2 | exact hB2.drew | exact below_drewN hB2 _⟩
          case measure => simp [intOf]; omega
        · go_wp2
          go_ret
          exact ⟨rfl, hB0.trans (hB2.mono hB0.size)⟩
end Go.Proofs.Ytbikcpchlgmoaaa.Disk
namespace Go.Proofs.Ytbikcpchlgmoaaa.Disk
open Go.ChangeShapes Go.WideShapes Go.ChangeAt Go.RowKit
section
variable {H : Type} {enc : TypeId × Value → H} {W : World} {base : Nat} {spare : Nat → Bool} {held : Bool}
theorem strs_small {v : Value} {fuel : Nat} {x : DataW H × List MemPlace} {zs : List (List UInt8)} (h : DataW.trod enc Try.prog W base spare held fuel 22 [v] = some x) (hs : HasStrs W v zs) (hw : ∀ n ∈ x.1.weights Try.prog 22, n ≤ reachBytes) : zs.length * 16 ≤ reachBytes := by
  rcases Go.Deep.open_strs Try.underlying22 Try.underlying9 (by kernel_rfl) h with ⟨hcs, _⟩ | ⟨a, l, c, m, Sx, hcs, _, hl, hm, hmm, hx, hr⟩
  · injection hcs with e; subst e
    rcases hs.2 with ⟨_, h0⟩ | ⟨a, cap, e, _⟩
    · rw [h0]; exact Nat.zero_le _
    · cases e
  · injection hcs with e; subst e
    have hl2 : l = zs.length := by
      rcases hs.2 with ⟨e, _⟩ | ⟨a, cap, e, _⟩
      · cases e
      · injection e
    have := hw ((l + (m - l)) * 16) (by
      rw [hx]
      simp only [DataW.weights, Try.underlying22]
      rw [show Try.prog.bytesOf 9 = 16 by kernel_rfl]
      simp)
    rw [← hl2]
    exact Nat.le_trans (Nat.mul_le_mul_right 16 (Nat.le_add_right _ _)) this
theorem puts_small {v : Value} {fuel : Nat} {x : DataW H × List MemPlace} {zs : List PutT} (h : DataW.trod enc Try.prog W base spare held fuel 23 [v] = some x) (hs : HasPuts W v zs) (hw : ∀ n ∈ x.1.weights Try.prog 23, n ≤ reachBytes) : zs.length * 24 ≤ reachBytes := by
  rcases Go.Deep.open_slice_pairs Try.underlying23 Try.underlying67 (by kernel_rfl) rfl rfl (by kernel_rfl) (by kernel_rfl) h with ⟨hcs, _⟩ | ⟨a, l, c, m, n, V0, V1, D0, D1, P0, P1, hcs, _, hl, hm, hmm, hx, hr⟩
  · injection hcs with e; subst e
    rcases hs.2 with ⟨_, h0⟩ | ⟨a, cap, e, _⟩
    · rw [h0]; exact Nat.zero_le _
    · cases e
  · injection hcs with e; subst e
    have hl2 : l = zs.length := by
      rcases hs.2 with ⟨e, _⟩ | ⟨a, cap, e, _⟩
      · cases e
      · injection e
    have := hw ((l + (m - l)) * 24) (by
      rw [hx]
      simp only [DataW.weights, Try.underlying23]
      rw [show Try.prog.bytesOf 67 = 24 by kernel_rfl]
      simp)
    rw [← hl2]
    exact Nat.le_trans (Nat.mul_le_mul_right 24 (Nat.le_add_right _ _)) this
set_option maxRecDepth 100000 in
theorem open_disk_s {v : Value} {d : DataW H} {ps : List MemPlace} {r : Reach} {b0 : Nat} (hval : Value.okWide Try.prog W r b0 25 v) (h : DataW.Trod enc Try.prog W base spare held 25 v d ps) (hw0 : ∀ n ∈ d.weights Try.prog 25, n ≤ reachBytes) :
    ∃ D : Dk, HasDk W v D ∧ Fits D ∧ D.secs.length ≤ 8796093022208 ∧ D.cache.length ≤ 5864062014805 := by
  obtain ⟨cs, rfl, hsz⟩ := okWide_struct Try.underlying25 hval
  obtain ⟨fuel, hf⟩ := h
  obtain ⟨xs, n, _, hxx, hlen, hxl, hfs⟩ := DataW.trod_struct Try.underlying25 hf
  rw [show Try.prog.cellsOf 25 = 4 from by kernel_rfl] at hsz
  obtain ⟨s, c, f, o, rfl⟩ : ∃ s c f o, cs = #[s, c, f, o] := by
    obtain ⟨l⟩ := cs
    match l, hsz with
    | [s, c, f, o], _ => exact ⟨s, c, f, o, rfl⟩
  have g0 : DataW.trod enc Try.prog W base spare held n 22 ((([s, c, f, o] : List Value).drop 0).take (Try.prog.cellsOf 22)) = xs[0]? := hfs 0 _ rfl
  have g1 : DataW.trod enc Try.prog W base spare held n 23 ((([s, c, f, o] : List Value).drop 1).take (Try.prog.cellsOf 23)) = xs[1]? := hfs 1 _ rfl
  have g2 : DataW.trod enc Try.prog W base spare held n 3 ((([s, c, f, o] : List Value).drop 2).take (Try.prog.cellsOf 3)) = xs[2]? := hfs 2 _ rfl
  have g3 : DataW.trod enc Try.prog W base spare held n 4 ((([s, c, f, o] : List Value).drop 3).take (Try.prog.cellsOf 4)) = xs[3]? := hfs 3 _ rfl
  have hx4 : xs.length = 4 := hxl
  have hd : d = .agg (xs.map (·.1)) := (Prod.mk.inj hxx).1
  have part : ∀ (i : Nat) (t : TypeId) (hi : i < xs.length), ([22, 23, 3, 4] : List TypeId)[i]? = some t → ∀ m ∈ (xs[i]).1.weights Try.prog t, m ≤ reachBytes := by
    intro i t hi ht m hm
    refine hw0 m ?_
    rw [hd]
    simp only [DataW.weights, Try.underlying25]
    exact DataW.weights_mem_each (ts := [22, 23, 3, 4]) (j := i) ht (by rw [List.getElem?_map, List.getElem?_eq_getElem hi]; rfl) m hm
  have w0 := part 0 22 (by omega) rfl
  have w1 := part 1 23 (by omega) rfl
  rw [List.getElem?_eq_getElem (by omega)] at g0 g1 g2 g3
  rw [show Try.prog.cellsOf 22 = 1 from by kernel_rfl] at g0
  rw [show Try.prog.cellsOf 23 = 1 from by kernel_rfl] at g1
  rw [show Try.prog.cellsOf 3 = 1 from by kernel_rfl] at g2
  rw [show Try.prog.cellsOf 4 = 1 from by kernel_rfl] at g3
  obtain ⟨zs, hs, hzl⟩ := open_strs_row (v := s) g0
  obtain ⟨qs, hp, hql⟩ := open_puts_row (v := c) g1
  have z1 := strs_small (v := s) g0 hs w0
  have z2 := puts_small (v := c) g1 hp w1
  obtain ⟨fu, e2, _, hw⟩ := DataW.trod_int Try.underlying3 g2
  obtain ⟨ob, e3, _⟩ := DataW.trod_bool Try.underlying4 g3
  have e2' : f = .int .i64 fu := by injection e2
  have e3' : o = .bool ob := by injection e3
  subst e2' e3'
  have hr : reachBytes = 140737488351232 := by decide
  rw [hr] at z1 z2
  exact ⟨⟨zs, qs, fu, ob⟩, ⟨s, c, rfl, hs, hp⟩, ⟨wf_i64 hw, hzl, hql⟩, by simp only; omega, by simp only; omega⟩
end
end Go.Proofs.Ytbikcpchlgmoaaa.Disk
namespace Go.Proofs.Ytbikcpchlgmoaaa.Seg
open Go.RowKit Go.Shelf
open Go.Proofs.Ytbikcpchlgmoaaa.Disk (below2)
open Go.Proofs.Ytbikcpchlgmoaaa.Frame (catL frameL catL_snoc size_list)

def batchR (zs : List (List UInt8)) : List UInt8 × Int := if zs.all (fun z => decide (z.length ≤ 4096)) = true then (catL zs, 0) else ([], 11)
theorem batchR_bad {zs : List (List UInt8)} {k : Nat} (hk : k < zs.length) (h : ¬ zs[k].length ≤ 4096) : batchR zs = ([], 11) := by
  unfold batchR
  rw [if_neg]
  intro ha
  exact h (by simpa using List.all_eq_true.1 ha _ (List.getElem_mem hk))
theorem batchR_ok {zs : List (List UInt8)} (h : ∀ z ∈ zs, z.length ≤ 4096) : batchR zs = (catL zs, 0) := by
  unfold batchR
  rw [if_pos]
  exact List.all_eq_true.2 (fun z hz => by simpa using h z hz)
theorem bytes_cat (a b : List UInt8) : (⟨a.toArray⟩ : ByteArray) ++ ⟨b.toArray⟩ = ⟨(a ++ b).toArray⟩ := by
  apply ByteArray.ext
  simp
theorem cat_most (zs : List (List UInt8)) (h : ∀ z ∈ zs, z.length ≤ 4096) : (catL zs).length ≤ 4110 * zs.length := by
  induction zs with
  | nil => simp [catL]
  | cons z zs ih =>
    have h1 := ih (fun y hy => h y (List.mem_cons_of_mem _ hy))
    have h2 := h z List.mem_cons_self
    have h3 := Frame.putL_le z.length h2
    rw [Frame.catL_cons, List.length_append, Frame.frameL_len, List.length_cons]
    omega
set_option maxHeartbeats 2000000 in
set_option maxRecDepth 20000 in
theorem rbatch_any (zs : List (List UInt8)) (v : Value) (w : World) (h : Frame.HasStrs w v zs) (hn9 : zs.length ≤ 1048576) (hz9 : ∀ z ∈ zs, z.length ≤ 140737488351232) :
    Calls Try.prog 31 #[v] w fun e w' => e = .returned (.tuple #[.string ⟨(batchR zs).1.toArray⟩, .int .i64 (batchR zs).2]) ∧ Below w.heap.size w w' := by
  obtain ⟨o, cap, rfl, g⟩ := h
  obtain ⟨n, hn⟩ : ∃ n, n = zs.length := ⟨_, rfl⟩
  have HN : Hid (n = zs.length) := hn
  have HG : Hid (∀ j (hj : j < zs.length), ∃ b i, o = some ⟨b, i, none⟩ ∧ w.cell? ⟨b, i + j, none⟩ = some (Frame.strV zs[j]) ∧ b < w.heap.size) := g
  have HZ : Hid (∀ z ∈ zs, z.length ≤ 140737488351232) := hz9
  have hni : (n : Int) ≤ 1048576 := by omega
  rw [← hn]
  clear hn g hz9 hn9
  go_enter Try.func31, Try.ntmps31
  go_wp2_with fail
  go_loopw [4, 11] (fun s i wr => ∃ (k : Nat) (A : ByteArray), k ≤ n ∧ i = .int .i64 k ∧ s = .string A ∧ Hid (A = ⟨(catL (zs.take k)).toArray⟩ ∧ ∀ z ∈ zs.take k, z.length ≤ 4096) ∧ Below w.heap.size w wr) (fun _ i _ => n - (intOf i).toNat)
  case atStart => exact ⟨0, ⟨#[]⟩, by omega, rfl, rfl, ⟨by simp [catL], by simp⟩, Below.refl _ w⟩
  case round =>
    obtain ⟨k, A, hk, rfl, rfl, HJ, hW⟩ := hrel
    have hsz := hW.size
    by_cases hlt : k < n
    · have hkz : k < zs.length := by rw [← HN.out]; exact hlt
      have hki : (k : Int) < (n : Int) := by omega
      obtain ⟨b, i, rfl, q1, l1⟩ := HG.out k hkz
      have r1 := (hW.cell (p := ⟨b, i + k, none⟩) l1).trans q1
      have hAz : A.size ≤ 4110 * 1048576 := by
        have h1 := cat_most _ HJ.out.2
        have h2 : (zs.take k).length ≤ k := by rw [List.length_take]; omega
        rw [HJ.out.1, size_list]
        omega
      unfold Frame.strV at r1
      by_cases hz : zs[k].length ≤ 4096
      · have cp := fun W => Frame.rput_ok zs[k] W hz
        have hfl : (frameL zs[k]).length ≤ 4110 := by rw [Frame.frameL_len]; have := Frame.putL_le _ hz; omega
        have HJ2 : Hid (A ++ ⟨(frameL zs[k]).toArray⟩ = ⟨(catL (zs.take (k + 1))).toArray⟩ ∧ ∀ z ∈ zs.take (k + 1), z.length ≤ 4096) := by
          refine ⟨?_, ?_⟩
          · rw [HJ.out.1, List.take_succ_eq_append_getElem hkz, catL_snoc, bytes_cat]
          · intro z hzz
            rw [List.take_succ_eq_append_getElem hkz, List.mem_append] at hzz
            rcases hzz with h | h
            · exact HJ.out.2 z h
            · rw [List.mem_singleton.1 h]; exact hz
        have hFz : (⟨(frameL zs[k]).toArray⟩ : ByteArray).size ≤ 4110 := by rw [size_list]; exact hfl
        generalize (⟨(frameL zs[k]).toArray⟩ : ByteArray) = F at cp HJ2 hFz
        generalize (⟨(zs[k]).toArray⟩ : ByteArray) = Zb at r1 cp
        clear q1 hz hfl
        go_wp2_with fail
        go_at_call 62; refine (cp _).mono ?_; rintro e w3 ⟨rfl, hb3⟩
        have hW3 := below2 hW hb3
        clear cp r1 hb3
        go_wp2
        go_roundw
        case rel => exact ⟨k + 1, _, by omega, by go_num, rfl, HJ2, hW3⟩
        case measure => simp [intOf]; omega
      · have cp := fun W => Frame.rput_long ⟨(zs[k]).toArray⟩ W (by rw [size_list]; omega) (by rw [size_list]; have := HZ.out _ (List.getElem_mem hkz); omega)
        have HR : Hid (batchR zs = ([], 11)) := batchR_bad hkz hz
        generalize (⟨(zs[k]).toArray⟩ : ByteArray) = Zb at r1 cp
        clear q1 hz
        go_wp2_with fail
        go_at_call 62; refine (cp _).mono ?_; rintro e w3 ⟨rfl, hb3⟩
        have hW3 := below2 hW hb3
        clear cp r1 hb3
        go_wp2
        go_ret2
        exact ⟨by rw [HR.out]; rfl, hW3⟩
    · obtain rfl : k = n := by omega
      have HR : Hid (batchR zs = (catL zs, 0) ∧ A = ⟨(catL zs).toArray⟩) := by
        have h1 := HJ.out
        rw [HN.out, List.take_length] at h1
        exact ⟨batchR_ok h1.2, h1.1⟩
      go_wp2
      go_ret2
      exact ⟨by rw [HR.out.1, HR.out.2]; rfl, hW⟩
end Go.Proofs.Ytbikcpchlgmoaaa.Seg
namespace Go.Proofs.Ytbikcpchlgmoaaa.Seg
open Go.RowKit Go.Shelf
open Go.Proofs.Ytbikcpchlgmoaaa.Disk (below2)
open Go.Proofs.Ytbikcpchlgmoaaa.Frame (catL frameL)
open Go.Proofs.Ytbikcpchlgmoaaa.Page (splitR splitL cntL RowsIs)

theorem own_row {W : World} {B : Nat} {v : Value} {n : Nat} {xs : List Value} (h : W.ownsRow B 9 1 v n xs) : ∃ o c, v = .slice o n c := by
  rcases h.2 with ⟨rfl, h0⟩ | ⟨g, cap, cur, rfl, _⟩
  · exact ⟨none, 0, by rw [h0]⟩
  · exact ⟨_, _, rfl⟩
theorem need_split {zs : List (List UInt8)} (h : ∀ z ∈ zs, z.length ≤ 4096) : needE zs = ((splitR 1 (catL zs)).1.length, (splitR 1 (catL zs)).2) := by
  unfold needE splitR
  by_cases h2 : (catL zs).length ≤ 14208
  · rw [if_pos (okR_mk h h2), if_neg (by omega), if_pos h2]
    simp only [Page.splitL_len]
    rfl
  · rw [if_neg (fun ha => h2 (okR_inv ha).2), if_neg (by omega), if_neg h2]
    rfl
set_option maxHeartbeats 2000000 in
set_option maxRecDepth 20000 in
theorem rneed_any (zs : List (List UInt8)) (v : Value) (w : World) (h : Frame.HasStrs w v zs) (hn9 : zs.length ≤ 1048576) (hz9 : ∀ z ∈ zs, z.length ≤ 140737488351232) :
    Calls Try.prog 14 #[v] w (LongIs (needE zs) w) := by
  have cb := rbatch_any zs v w h hn9 hz9
  obtain ⟨o, cap, rfl, _⟩ := h
  by_cases hall : ∀ z ∈ zs, z.length ≤ 4096
  · rw [batchR_ok hall] at cb
    have hm := cat_most zs hall
    have cs := fun W => Page.rsplit_any 1 (catL zs) W (by decide) (by omega)
    have HR : Hid (needE zs = ((splitR 1 (catL zs)).1.length, (splitR 1 (catL zs)).2)) := need_split hall
    generalize needE zs = R at HR
    generalize splitR 1 (catL zs) = r at cs HR
    obtain ⟨rows, y⟩ := r
    unfold RowsIs at cs
    simp only at cb cs HR
    rw [show ((1 : Nat) : Int) = 1 from rfl] at cs
    generalize (⟨(catL zs).toArray⟩ : ByteArray) = Cs at cb cs
    clear hm hall hn9 hz9
    go_enter Try.func14, Try.ntmps14
    go_wp2_with fail
    go_at_call 31; refine cb.mono ?_; rintro e w1 ⟨rfl, hb1⟩
    clear cb
    go_wp2_with fail
    go_at_call 38; refine (cs _).mono ?_; rintro e w2 ⟨v2, rfl, ho, hb2⟩
    obtain ⟨oo, oc, rfl⟩ := own_row ho
    clear cs ho
    go_wp2
    go_ret2
    exact ⟨by rw [HR.out]; rfl, below2 hb1 hb2⟩
  · have hb : batchR zs = ([], 11) := by
      unfold batchR
      rw [if_neg]
      intro ha
      exact hall (fun z hz => by simpa using List.all_eq_true.1 ha z hz)
    have HR : Hid (needE zs = (0, 11)) := by
      show _ = _
      unfold needE
      rw [if_neg]
      intro ha
      exact hall (okR_inv ha).1
    rw [hb] at cb
    generalize needE zs = R at HR
    simp only at cb
    clear hall hb hn9 hz9
    go_enter Try.func14, Try.ntmps14
    go_wp2_with fail
    go_at_call 31; refine cb.mono ?_; rintro e w1 ⟨rfl, hb1⟩
    clear cb
    go_wp2
    go_ret2
    exact ⟨by rw [HR.out]; rfl, hb1⟩
end Go.Proofs.Ytbikcpchlgmoaaa.Seg
namespace Go.Proofs.Ytbikcpchlgmoaaa.Seg
open Go.RowKit Go.Shelf
open Go.Proofs.Ytbikcpchlgmoaaa.Disk (Dk HasDk VDk VBox RBox Fits fits_ok Ok okB ok_of HasRow Back back_of writeD outD_ok zeroD zeroD_has set4_grown set4_below below2 HasStrs HasPuts)
open Go.Proofs.Ytbikcpchlgmoaaa.Page (pageL pieceL pieceL_len cntL StrIs putL_ok extract_piece slice_lh)
open Go.Proofs.Ytbikcpchlgmoaaa.Frame (catL size_list)

/-- the boxes of the document's write -/
structure RwAt (w W : World) (D : Dk) : Prop where
  disk : VDk W w.heap.size D
  res : RBox W (w.heap.size + 1)
  below : Below w.heap.size w W
theorem RwAt.keep {w W W' : World} {D : Dk} (h : RwAt w W D) (hb : Below W.heap.size W W') : RwAt w W' D := ⟨h.disk.below hb, h.res.below hb, below2 h.below hb⟩
theorem RwAt.store {w W : World} {D r : Dk} {so co : Option Addr} {sc cc : Nat} (h : RwAt w W D) (hs : HasStrs W (.slice so r.secs.length sc) r.secs) (hc : HasPuts W (.slice co r.cache.length cc) r.cache) :
    RwAt w ((((W.setCell ⟨w.heap.size, 0, none⟩ (.slice so r.secs.length sc)).setCell ⟨w.heap.size, 1, none⟩ (.slice co r.cache.length cc)).setCell ⟨w.heap.size, 2, none⟩ (.int .i64 r.fuse)).setCell ⟨w.heap.size, 3, none⟩ (.bool r.off)) r :=
  ⟨h.disk.store hs hc, h.res.kept (set4_grown _ _ _ _ _ _) (by simp), set4_below h.below (Nat.le_refl _) _ _ _ _⟩
theorem RwAt.out {w W : World} {D : Dk} {so co : Option Addr} {sc cc : Nat} (h : RwAt w W D) (hs : HasStrs W (.slice so D.secs.length sc) D.secs) (hc : HasPuts W (.slice co D.cache.length cc) D.cache) :
    HasDk ((((W.setCell ⟨w.heap.size + 1, 0, none⟩ (.slice so D.secs.length sc)).setCell ⟨w.heap.size + 1, 1, none⟩ (.slice co D.cache.length cc)).setCell ⟨w.heap.size + 1, 2, none⟩ (.int .i64 D.fuse)).setCell ⟨w.heap.size + 1, 3, none⟩ (.bool D.off)) (.agg #[.slice so D.secs.length sc, .slice co D.cache.length cc, .int .i64 D.fuse, .bool D.off]) D ∧
    Below w.heap.size w ((((W.setCell ⟨w.heap.size + 1, 0, none⟩ (.slice so D.secs.length sc)).setCell ⟨w.heap.size + 1, 1, none⟩ (.slice co D.cache.length cc)).setCell ⟨w.heap.size + 1, 2, none⟩ (.int .i64 D.fuse)).setCell ⟨w.heap.size + 1, 3, none⟩ (.bool D.off)) :=
  ⟨⟨_, _, rfl, hs.box h.res.nostr (set4_grown _ _ _ _ _ _), hc.box h.res.nostr (set4_grown _ _ _ _ _ _)⟩, set4_below h.below (by omega) _ _ _ _⟩
set_option maxHeartbeats 8000000 in
set_option maxRecDepth 20000 in
theorem rswrite_ok (d : Dk) (v : Value) (s : Int) (t : Nat) (at' : Int) (zs : List (List UInt8)) (u : Value) (w : World) (h : HasDk w v d) (hf : Fits d) (hu : Frame.HasStrs w u zs) (hn9 : zs.length ≤ 1048576) (hz9 : ∀ z ∈ zs, z.length ≤ 140737488351232)
    (hly : (longE d).2 = 0) (hmy : mayE (longE d).1 s t at' zs = 0) :
    Calls Try.prog 10 #[v, .int .i64 s, .int .u64 (t : Int), .int .i64 at', u] w (WrIs (writeS d s t at' zs) w) := by
  obtain ⟨⟨a, rfl, ha8⟩, ⟨ht1, ht2⟩, ⟨b, rfl, hbc⟩, hok⟩ := may_inv hmy
  have hhu : ∀ W, Below w.heap.size w W → Frame.HasStrs W u zs := fun W hb => hu.keep hb
  obtain ⟨hokb, h10, h1024, hL⟩ := long_inv hly
  have hOK := ok_of hokb
  have clo := fun W v (hd : HasDk W v d) => rlong_any d v W hd hf
  unfold LongIs at clo
  rw [hly] at clo
  have cne := fun W (hb : Below w.heap.size w W) => rneed_any zs u W (hhu W hb) hn9 hz9
  have cba := fun W (hb : Below w.heap.size w W) => rbatch_any zs u W (hhu W hb) hn9 hz9
  rw [show needE zs = (cntL (catL zs), 0) by unfold needE; rw [if_pos hok]; rfl] at cne
  rw [batchR_ok (okR_inv hok).1] at cba
  unfold LongIs at cne
  simp only at cne cba
  have ccp := fun W v (hd : HasDk W v d) => Disk.rcopy_any d v W hd (by omega) (by have := hOK.few; omega)
  have hroom : 2 + a * (longE d).1 + (longE d).1 ≤ d.secs.length := by rw [hL]; exact seg_room h10 ha8
  have HR : Hid (writeS d (a : Int) t (b : Int) zs = if (putAll d (2 + a * (longE d).1 + b) (pagesR (t + b) zs)).2 = 0 then ((putAll d (2 + a * (longE d).1 + b) (pagesR (t + b) zs)).1, b + cntL (catL zs), 0)
       else ((putAll d (2 + a * (longE d).1 + b) (pagesR (t + b) zs)).1, 0, (putAll d (2 + a * (longE d).1 + b) (pagesR (t + b) zs)).2)) := by
    show _ = _
    rw [writeS, if_pos hly, if_pos hmy, Int.toNat_natCast, Int.toNat_natCast]
  have hL127 : (longE d).1 ≤ 127 := by omega
  generalize writeS d (a : Int) t (b : Int) zs = R at HR
  clear hmy hly hL
  generalize (longE d).1 = L at *
  obtain ⟨m, hm⟩ : ∃ m, m = a * L := ⟨_, rfl⟩
  have hmi : (a : Int) * (L : Int) = (m : Int) := by rw [hm]; simp
  rw [← hm] at HR hroom
  have HPA : Hid (∀ k, k < cntL (catL zs) → ∃ hk : k < (pagesR (t + b) zs).length, (pagesR (t + b) zs)[k] = pageL (t + b + k) (pieceL (catL zs) k)) := fun k hk => ⟨by rw [pagesR_len]; exact hk, pagesR_at _ _ _ _⟩
  have hPl := pagesR_len (t + b) zs
  obtain ⟨so, sc, co, cc, rfl, hsx, hcx⟩ := h.parts
  obtain ⟨uo, uc, rfl, _⟩ := hu
  obtain ⟨X, hX⟩ : ∃ X, X = (w.alloc (.cells #[.slice so d.secs.length sc, .slice co d.cache.length cc, .int .i64 d.fuse, .bool d.off] 25)).alloc (.cells #[.slice none 0 0, .slice none 0 0, .int .i64 0, .bool false] 25) := ⟨_, rfl⟩
  have HX : Hid (RwAt w X d) := by
    refine ⟨?_, ?_, ?_⟩
    · rw [hX]; exact (VDk.new hsx hcx).below ((Below.refl _ _).alloc (Nat.le_refl _) _)
    · have := World.alloc_heap_new (w.alloc (.cells #[.slice so d.secs.length sc, .slice co d.cache.length cc, .int .i64 d.fuse, .bool d.off] 25)) (.cells #[.slice none 0 0, .slice none 0 0, .int .i64 0, .bool false] 25)
      rw [World.size_alloc, ← hX] at this
      exact this
    · rw [hX]; exact ((Below.refl _ w).alloc (Nat.le_refl _) _).alloc (by simp) _
  obtain ⟨S, hS⟩ : ∃ S : ByteArray, S = ⟨(catL zs).toArray⟩ := ⟨_, rfl⟩
  have hz : S.size = (catL zs).length := by rw [hS, size_list]
  rw [← hS] at cba
  have HS : Hid (S = ⟨(catL zs).toArray⟩ ∧ S.size = (catL zs).length ∧ (catL zs).length ≤ 14208) := ⟨hS, hz, (okR_inv hok).2⟩
  have hSi : (S.size : Int) ≤ 14208 := by have := HS.out.2.2; omega
  obtain ⟨c, hc⟩ : ∃ c, c = cntL (catL zs) := ⟨_, rfl⟩
  rw [← hc] at HR cne hbc hPl HPA
  have HC : Hid (c = cntL (catL zs)) := hc
  have HFU : Hid (d.fuse ≤ 9223372036854775807 ∧ Ok d) := ⟨hf.1.2, hOK⟩
  have HRO : Hid (2 + m + L ≤ d.secs.length ∧ d.secs.length ≤ 1024 ∧ b + c ≤ L ∧ (pagesR (t + b) zs).length = c) := ⟨hroom, h1024, hbc, hPl⟩
  generalize pagesR (t + b) zs = PS at HR HPA HRO
  generalize catL zs = l at HS HC HPA
  have HT : Hid (1 ≤ t ∧ t ≤ 4611686018427387904) := ⟨ht1, ht2⟩
  have hti : (t : Int) ≤ 4611686018427387904 := by omega
  have hti1 : 1 ≤ (t : Int) := by omega
  have hai : (a : Int) < 8 := by omega
  have hLi : (L : Int) ≤ 127 := by omega
  have hbi : (b : Int) ≤ (L : Int) := by have := HRO.out; omega
  have hci : (c : Int) ≤ (L : Int) - (b : Int) := by have := HRO.out; omega
  have hmi2 : (m : Int) ≤ 1024 := by have := HRO.out; omega
  clear hS hz hc hok hsx hcx h hf hOK hokb h10 h1024 hroom hbc hPl hhu hn9 hz9 ht1 ht2 hm hL127 ha8
  go_enter Try.func10, Try.ntmps10
  go_upto_region 1 with fail
  rw [← hX]
  clear hX
  obtain ⟨s5, s6, s7, s8, vb, hs, hc⟩ := HX.out.disk
  obtain ⟨q0, q1, q2, q3, qf⟩ := vb.cells
  go_wp2_with fail
  go_at_call 12; refine (clo _ _ ⟨_, _, rfl, hs, hc⟩).mono ?_; rintro e w1 ⟨rfl, hb1⟩
  have H1 : Hid (RwAt w w1 d) := HX.out.keep hb1
  clear q0 q1 q2 q3 qf vb hs hc HX hb1 clo
  obtain ⟨s5, s6, s7, s8, vb, hs, hc⟩ := H1.out.disk
  obtain ⟨q0, q1, q2, q3, qf⟩ := vb.cells
  go_wp2_with fail
  go_at_call 8; refine (ccp _ _ ⟨_, _, rfl, hs, hc⟩).mono ?_; rintro e w2 ⟨g1, g2, g3, g4, rfl, ho1, ho2, hb2⟩
  have hs2 : HasStrs w2 (.slice g1 d.secs.length g2) d.secs := Disk.hasRow_own ho1
  have hc2 : HasPuts w2 (.slice g3 d.cache.length g4) d.cache := Disk.hasRow_own ho2
  obtain ⟨X2, hX2⟩ : ∃ X, X = ((((w2.setCell ⟨w.heap.size, 0, none⟩ (.slice g1 d.secs.length g2)).setCell ⟨w.heap.size, 1, none⟩ (.slice g3 d.cache.length g4)).setCell ⟨w.heap.size, 2, none⟩ (.int .i64 d.fuse)).setCell ⟨w.heap.size, 3, none⟩ (.bool d.off)) := ⟨_, rfl⟩
  have H2 : Hid (RwAt w X2 d) := by rw [hX2]; exact (H1.out.keep hb2).store hs2 hc2
  have vb2 := vb.below hb2
  clear q0 q1 q2 q3 qf vb hs hc hs2 hc2 ho1 ho2 hb2 H1 ccp
  obtain ⟨q0, q1, q2, q3, qf⟩ := vb2.cells
  go_upto_region 5 with fail
  rw [← hX2]
  clear hX2 q0 q1 q2 q3 qf vb2
  go_wp2_with fail
  go_at_call 14; refine (cne _ H2.out.below).mono ?_; rintro e w3 ⟨rfl, hb3⟩
  have H3 : Hid (RwAt w w3 d) := H2.out.keep hb3
  clear hb3 H2 cne
  go_wp2_with fail
  go_at_call 31; refine (cba _ H3.out.below).mono ?_; rintro e w4 ⟨rfl, hb4⟩
  have H4 : Hid (RwAt w w4 d) := H3.out.keep hb4
  clear hb4 H3 cba
  go_wp2_with fail
  go_loopw [18] (fun i wr => ∃ (k : Nat) (D : Dk), k ≤ c ∧ i = .int .i64 k ∧ Hid (RwAt w wr D ∧ Ok D ∧ D.fuse ≤ 9223372036854775807 ∧ putAll d (2 + m + b) PS = putAll D (2 + m + b + k) (PS.drop k))) (fun i _ => c - (intOf i).toNat)
  case atStart => exact ⟨0, d, by omega, rfl, ⟨H4.out, HFU.out.2, HFU.out.1, rfl⟩⟩
  case round =>
    obtain ⟨k, D, hk, rfl, HV⟩ := hrel
    clear H4 HFU
    by_cases hlt : k < c
    · obtain ⟨hkz, hPk⟩ := HPA.out k hlt
      have hki : (k : Int) < (c : Int) := by omega
      obtain ⟨hv, hvo, hvf, hve⟩ := HV.out
      obtain ⟨p, hp⟩ : ∃ p, p = 111 * k := ⟨_, rfl⟩
      have hmS : p < S.size := by have h1 := HC.out; have h2 := HS.out.2; unfold cntL at h1; omega
      have hpk : (k : Int) * 111 = (p : Int) := by omega
      have hpi : (p : Int) < (S.size : Int) := by omega
      have hpk2 : ((k : Int) + 1) * 111 = (p : Int) + 111 := by omega
      have k1 : ∀ W, (Instr.slice 9 (.string S) (some (.int .i64 (p : Int))) (some (.int .i64 (min (S.size : Int) ((p : Int) + 111)))) none).run Try.prog W = .ok (.string ⟨(pieceL l k).toArray⟩) W := by
        intro W
        rw [slice_lh W S Try.underlying9 _ _ (by omega) (by omega) (by omega), ← extract_piece l k]
        rw [show ((p : Int)).toNat = 111 * k by omega, show (min (S.size : Int) ((p : Int) + 111)).toNat = min (111 * k + 111) l.length by have := HS.out.2; omega]
        rw [HS.out.1]
      have cp := fun W => Page.rput_any (t + b + k) (pieceL l k) W (by have := HT.out.2; have := HRO.out; omega) (by have := pieceL_len l k; omega)
      rw [putL_ok (by have := HT.out.1; omega) (pieceL_len l k), ← hPk] at cp
      unfold StrIs at cp
      simp only at cp
      have hle : PS[k].length = 128 := by rw [hPk]; exact Page.pageL_len _ _ (pieceL_len _ _)
      have cw := fun W v (hd : HasDk W v D) => (Disk.rwrite_any D v ((2 + m + b + k : Nat) : Int) PS[k] W hd (fits_ok hvo hvf) (by have := HRO.out; omega) (by omega)).mono (fun e w' h => back_of h)
      simp only [outD_ok hvo] at cw
      unfold Disk.strV at cw
      have HST := putAll_step D (2 + m + b) k PS hkz
      rw [← hve] at HST
      have HOW : Hid (Ok (writeD D ((2 + m + b + k : Nat) : Int) PS[k]).1 ∧ (writeD D ((2 + m + b + k : Nat) : Int) PS[k]).1.fuse ≤ 9223372036854775807) := ⟨Disk.write_ok hvo _ _, Disk.write_fuse hvf _ _⟩
      generalize writeD D ((2 + m + b + k : Nat) : Int) PS[k] = r at cw HST HOW
      obtain ⟨D2, y2⟩ := r
      unfold Back at cw
      simp only at cw HST HOW
      have HST2 : Hid (putAll d (2 + m + b) PS = if y2 = 0 then putAll D2 (2 + m + b + (k + 1)) (PS.drop (k + 1)) else (D2, y2)) := HST
      rw [show ((2 + m + b + k : Nat) : Int) = 2 + (m : Int) + (b : Int) + (k : Int) by omega] at cw
      rw [show ((t + b + k : Nat) : Int) = (t : Int) + ((b : Int) + (k : Int)) by omega] at cp
      generalize (⟨(PS[k]).toArray⟩ : ByteArray) = Pk at cw cp
      generalize (⟨(pieceL l k).toArray⟩ : ByteArray) = Pc at k1 cp
      have e1 : IntKind.u64.wrap ((b : Int) + (k : Int)) = (b : Int) + (k : Int) := by rw [IntKind.wrap_u64]; omega
      have e2 : IntKind.u64.wrap ((t : Int) + ((b : Int) + (k : Int))) = (t : Int) + ((b : Int) + (k : Int)) := by rw [IntKind.wrap_u64]; omega
      have e3 : IntKind.i64.wrap (p : Int) = (p : Int) := by rw [IntKind.wrap_i64]; omega
      have e4 : IntKind.i64.wrap ((p : Int) + 111) = (p : Int) + 111 := by rw [IntKind.wrap_i64]; omega
      have e5 : IntKind.i64.wrap (m : Int) = (m : Int) := by rw [IntKind.wrap_i64]; omega
      clear HST hve hvo hvf hle hPk hp
      go_wp2_with fail
      go_at_call 32; refine (cp _).mono ?_; rintro e w5 ⟨rfl, hb5⟩
      have HV5 : Hid (RwAt w w5 D) := hv.keep hb5
      clear hv hb5 cp k1 HV
      obtain ⟨s5, s6, s7, s8, vb, hs, hc⟩ := HV5.out.disk
      obtain ⟨q0, q1, q2, q3, qf⟩ := vb.cells
      go_wp2_with fail
      go_at_call 33; refine (cw _ _ ⟨_, _, rfl, hs, hc⟩).mono ?_; rintro e w6 ⟨a1, a2, a3, a4, rfl, hs6, hc6, hb6⟩
      obtain ⟨X6, hX6⟩ : ∃ X, X = w6.alloc (.cells #[.slice a1 D2.secs.length a2, .slice a3 D2.cache.length a4, .int .i64 D2.fuse, .bool D2.off] 25) := ⟨_, rfl⟩
      obtain ⟨b6, hb6'⟩ : ∃ b, b = w6.heap.size := ⟨_, rfl⟩
      have hbX : Below w6.heap.size w6 X6 := by rw [hX6]; exact (Below.refl _ _).alloc (Nat.le_refl _) _
      have HV6 : Hid (RwAt w X6 D) := HV5.out.keep (below2 hb6 hbX)
      have VE : VBox X6 b6 (.slice a1 D2.secs.length a2) (.slice a3 D2.cache.length a4) (.int .i64 D2.fuse) (.bool D2.off) := by rw [hX6, hb6']; exact World.alloc_heap_new _ _
      have HSX : Hid (HasStrs X6 (.slice a1 D2.secs.length a2) D2.secs ∧ HasPuts X6 (.slice a3 D2.cache.length a4) D2.cache) := ⟨hs6.keep hbX, hc6.keep hbX⟩
      clear q0 q1 q2 q3 qf vb hs hc HV5 cw
      go_upto_region 18 with fail
      rw [← hX6, ← hb6']
      clear hX6 hb6' hbX hs6 hc6 hb6
      obtain ⟨s5, s6, s7, s8, vb, hs, hc⟩ := HV6.out.disk
      obtain ⟨q0, q1, q2, q3, qf⟩ := vb.cells
      obtain ⟨z0, z1, z2, z3, zf⟩ := VE.cells
      obtain ⟨X7, hX7⟩ : ∃ X, X = ((((X6.setCell ⟨w.heap.size, 0, none⟩ (.slice a1 D2.secs.length a2)).setCell ⟨w.heap.size, 1, none⟩ (.slice a3 D2.cache.length a4)).setCell ⟨w.heap.size, 2, none⟩ (.int .i64 D2.fuse)).setCell ⟨w.heap.size, 3, none⟩ (.bool D2.off)) := ⟨_, rfl⟩
      have HV7 : Hid (RwAt w X7 D2) := by rw [hX7]; exact HV6.out.store HSX.out.1 HSX.out.2
      go_upto_region 19 with fail
      rw [← hX7]
      clear hX7 q0 q1 q2 q3 qf vb hs hc HV6 HSX z0 z1 z2 z3 zf VE
      by_cases hy : y2 = 0
      · subst hy
        have HP2 : Hid (putAll d (2 + m + b) PS = putAll D2 (2 + m + b + (k + 1)) (PS.drop (k + 1))) := by show _ = _; rw [HST2.out, if_pos rfl]
        go_wp2_with fail
        go_roundw
        case rel => exact ⟨k + 1, D2, by omega, by go_num, ⟨HV7.out, HOW.out.1, HOW.out.2, HP2.out⟩⟩
        case measure => simp [intOf]; omega
      · have hP2 : putAll d (2 + m + b) PS = (D2, y2) := by rw [HST2.out, if_neg hy]
        have hRR : R = (D2, 0, y2) := by rw [HR.out, hP2, if_neg hy]
        have hv := HV7.out
        obtain ⟨s5, s6, s7, s8, vb, hs, hc⟩ := hv.disk
        obtain ⟨q0, q1, q2, q3, qf⟩ := vb.cells
        obtain ⟨z0, z1, z2, z3, zf⟩ := hv.res.cells
        have HO1 := hv.out hs hc
        have HO : Hid _ := HO1
        clear HO1
        subst hRR
        clear hP2 HST2 HR HV7 hv hs hc vb HPA HS HC
        go_wp2
        (try simp only [Exit.inBlock, Exit.then])
        refine bodyPost_ret (v := .tuple #[.agg #[.slice s5 D2.secs.length s6, .slice s7 D2.cache.length s8, .int .i64 D2.fuse, .bool D2.off], .int .i64 0, .int .i64 y2]) ?_ rfl ⟨_, rfl, HO.out.1, HO.out.2⟩
        rw [results_cell_tmp2 rfl]
        go_simp
    · obtain rfl : k = c := by omega
      obtain ⟨hv, hvo, hvf, hve⟩ := HV.out
      obtain ⟨s5, s6, s7, s8, vb, hs, hc⟩ := hv.disk
      obtain ⟨q0, q1, q2, q3, qf⟩ := vb.cells
      obtain ⟨z0, z1, z2, z3, zf⟩ := hv.res.cells
      have hRR : R = (D, b + k, 0) := by
        rw [HR.out, hve, List.drop_of_length_le (by rw [HRO.out.2.2.2]; exact Nat.le_refl _), putAll]; rfl
      have HO1 := hv.out hs hc
      have HO : Hid _ := HO1
      clear HO1
      subst hRR
      clear hv hvo hvf hve hs hc vb HR HV HPA HS HC
      go_wp2
      (try simp only [Exit.inBlock, Exit.then])
      refine bodyPost_ret (v := .tuple #[.agg #[.slice s5 D.secs.length s6, .slice s7 D.cache.length s8, .int .i64 D.fuse, .bool D.off], .int .i64 ((b : Int) + (k : Int)), .int .i64 0]) ?_ rfl ⟨_, by simp, HO.out.1, HO.out.2⟩
      rw [results_cell_tmp2 rfl]
      go_simp
end Go.Proofs.Ytbikcpchlgmoaaa.Seg
namespace Go.Proofs.Ytbikcpchlgmoaaa.Seg
open Go.RowKit Go.Shelf
open Go.Proofs.Ytbikcpchlgmoaaa.Disk (Dk HasDk VDk VBox RBox Fits fits_ok Ok okB ok_of HasRow Back back_of writeD outD_ok zeroD zeroD_has set4_grown set4_below below2 HasStrs HasPuts)
open Go.Proofs.Ytbikcpchlgmoaaa.Page (pageL pieceL pieceL_len cntL StrIs putL_ok extract_piece slice_lh)
open Go.Proofs.Ytbikcpchlgmoaaa.Frame (catL size_list)

theorem rw_new {w X : World} {d : Dk} {so co : Option Addr} {sc cc : Nat} (hsx : HasStrs w (.slice so d.secs.length sc) d.secs) (hcx : HasPuts w (.slice co d.cache.length cc) d.cache)
    (hX : X = (w.alloc (.cells #[.slice so d.secs.length sc, .slice co d.cache.length cc, .int .i64 d.fuse, .bool d.off] 25)).alloc (.cells #[.slice none 0 0, .slice none 0 0, .int .i64 0, .bool false] 25)) : RwAt w X d := by
  refine ⟨?_, ?_, ?_⟩
  · rw [hX]; exact (VDk.new hsx hcx).below ((Below.refl _ _).alloc (Nat.le_refl _) _)
  · have := World.alloc_heap_new (w.alloc (.cells #[.slice so d.secs.length sc, .slice co d.cache.length cc, .int .i64 d.fuse, .bool d.off] 25)) (.cells #[.slice none 0 0, .slice none 0 0, .int .i64 0, .bool false] 25)
    rw [World.size_alloc, ← hX] at this
    exact this
  · rw [hX]; exact ((Below.refl _ w).alloc (Nat.le_refl _) _).alloc (by simp) _
set_option maxHeartbeats 8000000 in
set_option maxRecDepth 20000 in
theorem rsw_long (d : Dk) (v : Value) (s : Int) (t : Nat) (at' : Int) (zs : List (List UInt8)) (u : Value) (w : World) (h : HasDk w v d) (hf : Fits d) (hu : Frame.HasStrs w u zs) (hn9 : zs.length ≤ 1048576) (hz9 : ∀ z ∈ zs, z.length ≤ 140737488351232)
    (hs9 : -9223372036854775808 ≤ s ∧ s ≤ 9223372036854775807) (ht9 : t < 18446744073709551616) (ha9 : -9223372036854775808 ≤ at' ∧ at' ≤ 9223372036854775807)
    (y : Int) (hy : (y != 0) = true) (hy2 : (longE d).2 = y) :
    Calls Try.prog 10 #[v, .int .i64 s, .int .u64 (t : Int), .int .i64 at', u] w (WrIs (zeroD, 0, y) w) := by
  have clo := fun W v (hd : HasDk W v d) => rlong_any d v W hd hf
  unfold LongIs at clo
  rw [hy2] at clo
  clear hy2
  obtain ⟨so, sc, co, cc, rfl, hsx, hcx⟩ := h.parts
  obtain ⟨uo, uc, rfl, _⟩ := hu
  obtain ⟨X, hX⟩ : ∃ X, X = (w.alloc (.cells #[.slice so d.secs.length sc, .slice co d.cache.length cc, .int .i64 d.fuse, .bool d.off] 25)).alloc (.cells #[.slice none 0 0, .slice none 0 0, .int .i64 0, .bool false] 25) := ⟨_, rfl⟩
  have HX : Hid (RwAt w X d) := rw_new hsx hcx hX
  obtain ⟨hs0, hs1⟩ := hs9
  obtain ⟨ha0, ha1⟩ := ha9
  have hti : (t : Int) ≤ 18446744073709551615 := by omega
  clear hsx hcx h hf ht9 hn9 hz9
  skip
  go_enter Try.func10, Try.ntmps10
  go_upto_region 1 with fail
  rw [← hX]
  clear hX
  obtain ⟨s5, s6, s7, s8, vb, hs, hc⟩ := HX.out.disk
  obtain ⟨q0, q1, q2, q3, qf⟩ := vb.cells
  go_wp2_with fail
  go_at_call 12; refine (clo _ _ ⟨_, _, rfl, hs, hc⟩).mono ?_; rintro e w1 ⟨rfl, hb1⟩
  have H1 : Hid (RwAt w w1 d) := HX.out.keep hb1
  clear q0 q1 q2 q3 qf vb hs hc HX hb1 clo
  obtain ⟨z0, z1, z2, z3, zf⟩ := H1.out.res.cells
  have hBf := H1.out.below
  clear H1
  go_wp2_with fail
  (try simp only [Exit.inBlock, Exit.then])
  refine bodyPost_ret (v := .tuple #[.agg #[.slice none 0 0, .slice none 0 0, .int .i64 0, .bool false], .int .i64 0, .int .i64 y]) ?_ rfl ⟨_, rfl, zeroD_has _, set4_below hBf (by omega) _ _ _ _⟩
  rw [results_cell_tmp2 rfl]
  go_simp
set_option maxHeartbeats 8000000 in
set_option maxRecDepth 20000 in
theorem rsw_neg (d : Dk) (v : Value) (s : Int) (t : Nat) (at' : Int) (zs : List (List UInt8)) (u : Value) (w : World) (h : HasDk w v d) (hf : Fits d) (hu : Frame.HasStrs w u zs) (hn9 : zs.length ≤ 1048576) (hz9 : ∀ z ∈ zs, z.length ≤ 140737488351232)
    (hs9 : -9223372036854775808 ≤ s ∧ s ≤ 9223372036854775807) (ht9 : t < 18446744073709551616) (ha9 : -9223372036854775808 ≤ at' ∧ at' ≤ 9223372036854775807)
    (hly : (longE d).2 = 0) (hr : s < 0) :
    Calls Try.prog 10 #[v, .int .i64 s, .int .u64 (t : Int), .int .i64 at', u] w (WrIs (d, 0, 1) w) := by
  have clo := fun W v (hd : HasDk W v d) => rlong_any d v W hd hf
  unfold LongIs at clo
  rw [hly] at clo
  obtain ⟨hokb, h10, h1024, hL⟩ := long_inv hly
  have hOK := ok_of hokb
  have hL127 : (longE d).1 ≤ 127 := by omega
  have ccp := fun W v (hd : HasDk W v d) => Disk.rcopy_any d v W hd (by omega) (by have := hOK.few; omega)
  clear hly hL
  generalize (longE d).1 = L at *
  have hLi : (L : Int) ≤ 127 := by omega
  have d1 : decide (s < 0) = true := decide_eq_true hr
  clear hr
  obtain ⟨so, sc, co, cc, rfl, hsx, hcx⟩ := h.parts
  obtain ⟨uo, uc, rfl, _⟩ := hu
  obtain ⟨X, hX⟩ : ∃ X, X = (w.alloc (.cells #[.slice so d.secs.length sc, .slice co d.cache.length cc, .int .i64 d.fuse, .bool d.off] 25)).alloc (.cells #[.slice none 0 0, .slice none 0 0, .int .i64 0, .bool false] 25) := ⟨_, rfl⟩
  have HX : Hid (RwAt w X d) := rw_new hsx hcx hX
  obtain ⟨hs0, hs1⟩ := hs9
  obtain ⟨ha0, ha1⟩ := ha9
  have hti : (t : Int) ≤ 18446744073709551615 := by omega
  clear hsx hcx h hf ht9 hn9 hz9
  clear hOK hokb h10 h1024 hL127
  go_enter Try.func10, Try.ntmps10
  go_upto_region 1 with fail
  rw [← hX]
  clear hX
  obtain ⟨s5, s6, s7, s8, vb, hs, hc⟩ := HX.out.disk
  obtain ⟨q0, q1, q2, q3, qf⟩ := vb.cells
  go_wp2_with fail
  go_at_call 12; refine (clo _ _ ⟨_, _, rfl, hs, hc⟩).mono ?_; rintro e w1 ⟨rfl, hb1⟩
  have H1 : Hid (RwAt w w1 d) := HX.out.keep hb1
  clear q0 q1 q2 q3 qf vb hs hc HX hb1 clo
  obtain ⟨s5, s6, s7, s8, vb, hs, hc⟩ := H1.out.disk
  obtain ⟨q0, q1, q2, q3, qf⟩ := vb.cells
  go_wp2_with fail
  go_at_call 8; refine (ccp _ _ ⟨_, _, rfl, hs, hc⟩).mono ?_; rintro e w2 ⟨g1, g2, g3, g4, rfl, ho1, ho2, hb2⟩
  have hs2 : HasStrs w2 (.slice g1 d.secs.length g2) d.secs := Disk.hasRow_own ho1
  have hc2 : HasPuts w2 (.slice g3 d.cache.length g4) d.cache := Disk.hasRow_own ho2
  obtain ⟨X2, hX2⟩ : ∃ X, X = ((((w2.setCell ⟨w.heap.size, 0, none⟩ (.slice g1 d.secs.length g2)).setCell ⟨w.heap.size, 1, none⟩ (.slice g3 d.cache.length g4)).setCell ⟨w.heap.size, 2, none⟩ (.int .i64 d.fuse)).setCell ⟨w.heap.size, 3, none⟩ (.bool d.off)) := ⟨_, rfl⟩
  have H2 : Hid (RwAt w X2 d) := by rw [hX2]; exact (H1.out.keep hb2).store hs2 hc2
  have vb2 := vb.below hb2
  clear q0 q1 q2 q3 qf vb hs hc hs2 hc2 ho1 ho2 hb2 H1 ccp
  obtain ⟨q0, q1, q2, q3, qf⟩ := vb2.cells
  go_upto_region 5 with fail
  rw [← hX2]
  clear hX2 q0 q1 q2 q3 qf vb2
  have hv := H2.out
  obtain ⟨s5, s6, s7, s8, vb, hs, hc⟩ := hv.disk
  obtain ⟨q0, q1, q2, q3, qf⟩ := vb.cells
  obtain ⟨z0, z1, z2, z3, zf⟩ := hv.res.cells
  have HO1 := hv.out hs hc
  have HO : Hid _ := HO1
  clear HO1 hv hs hc vb H2
  go_wp2_with fail
  (try simp only [Exit.inBlock, Exit.then])
  refine bodyPost_ret (v := .tuple #[.agg #[.slice s5 d.secs.length s6, .slice s7 d.cache.length s8, .int .i64 d.fuse, .bool d.off], .int .i64 0, .int .i64 1]) ?_ rfl ⟨_, rfl, HO.out.1, HO.out.2⟩
  rw [results_cell_tmp2 rfl]
  go_simp
set_option maxHeartbeats 8000000 in
set_option maxRecDepth 20000 in
theorem rsw_big (d : Dk) (v : Value) (s : Int) (t : Nat) (at' : Int) (zs : List (List UInt8)) (u : Value) (w : World) (h : HasDk w v d) (hf : Fits d) (hu : Frame.HasStrs w u zs) (hn9 : zs.length ≤ 1048576) (hz9 : ∀ z ∈ zs, z.length ≤ 140737488351232)
    (hs9 : -9223372036854775808 ≤ s ∧ s ≤ 9223372036854775807) (ht9 : t < 18446744073709551616) (ha9 : -9223372036854775808 ≤ at' ∧ at' ≤ 9223372036854775807)
    (hly : (longE d).2 = 0) (hr : 8 ≤ s) :
    Calls Try.prog 10 #[v, .int .i64 s, .int .u64 (t : Int), .int .i64 at', u] w (WrIs (d, 0, 1) w) := by
  have clo := fun W v (hd : HasDk W v d) => rlong_any d v W hd hf
  unfold LongIs at clo
  rw [hly] at clo
  obtain ⟨hokb, h10, h1024, hL⟩ := long_inv hly
  have hOK := ok_of hokb
  have hL127 : (longE d).1 ≤ 127 := by omega
  have ccp := fun W v (hd : HasDk W v d) => Disk.rcopy_any d v W hd (by omega) (by have := hOK.few; omega)
  clear hly hL
  generalize (longE d).1 = L at *
  have hLi : (L : Int) ≤ 127 := by omega
  have d0 : decide (s < 0) = false := decide_eq_false (by omega)
  have d1 : decide ((8 : Int) ≤ s) = true := decide_eq_true hr
  clear hr
  obtain ⟨so, sc, co, cc, rfl, hsx, hcx⟩ := h.parts
  obtain ⟨uo, uc, rfl, _⟩ := hu
  obtain ⟨X, hX⟩ : ∃ X, X = (w.alloc (.cells #[.slice so d.secs.length sc, .slice co d.cache.length cc, .int .i64 d.fuse, .bool d.off] 25)).alloc (.cells #[.slice none 0 0, .slice none 0 0, .int .i64 0, .bool false] 25) := ⟨_, rfl⟩
  have HX : Hid (RwAt w X d) := rw_new hsx hcx hX
  obtain ⟨hs0, hs1⟩ := hs9
  obtain ⟨ha0, ha1⟩ := ha9
  have hti : (t : Int) ≤ 18446744073709551615 := by omega
  clear hsx hcx h hf ht9 hn9 hz9
  clear hOK hokb h10 h1024 hL127
  go_enter Try.func10, Try.ntmps10
  go_upto_region 1 with fail
  rw [← hX]
  clear hX
  obtain ⟨s5, s6, s7, s8, vb, hs, hc⟩ := HX.out.disk
  obtain ⟨q0, q1, q2, q3, qf⟩ := vb.cells
  go_wp2_with fail
  go_at_call 12; refine (clo _ _ ⟨_, _, rfl, hs, hc⟩).mono ?_; rintro e w1 ⟨rfl, hb1⟩
  have H1 : Hid (RwAt w w1 d) := HX.out.keep hb1
  clear q0 q1 q2 q3 qf vb hs hc HX hb1 clo
  obtain ⟨s5, s6, s7, s8, vb, hs, hc⟩ := H1.out.disk
  obtain ⟨q0, q1, q2, q3, qf⟩ := vb.cells
  go_wp2_with fail
  go_at_call 8; refine (ccp _ _ ⟨_, _, rfl, hs, hc⟩).mono ?_; rintro e w2 ⟨g1, g2, g3, g4, rfl, ho1, ho2, hb2⟩
  have hs2 : HasStrs w2 (.slice g1 d.secs.length g2) d.secs := Disk.hasRow_own ho1
  have hc2 : HasPuts w2 (.slice g3 d.cache.length g4) d.cache := Disk.hasRow_own ho2
  obtain ⟨X2, hX2⟩ : ∃ X, X = ((((w2.setCell ⟨w.heap.size, 0, none⟩ (.slice g1 d.secs.length g2)).setCell ⟨w.heap.size, 1, none⟩ (.slice g3 d.cache.length g4)).setCell ⟨w.heap.size, 2, none⟩ (.int .i64 d.fuse)).setCell ⟨w.heap.size, 3, none⟩ (.bool d.off)) := ⟨_, rfl⟩
  have H2 : Hid (RwAt w X2 d) := by rw [hX2]; exact (H1.out.keep hb2).store hs2 hc2
  have vb2 := vb.below hb2
  clear q0 q1 q2 q3 qf vb hs hc hs2 hc2 ho1 ho2 hb2 H1 ccp
  obtain ⟨q0, q1, q2, q3, qf⟩ := vb2.cells
  go_upto_region 5 with fail
  rw [← hX2]
  clear hX2 q0 q1 q2 q3 qf vb2
  have hv := H2.out
  obtain ⟨s5, s6, s7, s8, vb, hs, hc⟩ := hv.disk
  obtain ⟨q0, q1, q2, q3, qf⟩ := vb.cells
  obtain ⟨z0, z1, z2, z3, zf⟩ := hv.res.cells
  have HO1 := hv.out hs hc
  have HO : Hid _ := HO1
  clear HO1 hv hs hc vb H2
  go_wp2_with fail
  (try simp only [Exit.inBlock, Exit.then])
  refine bodyPost_ret (v := .tuple #[.agg #[.slice s5 d.secs.length s6, .slice s7 d.cache.length s8, .int .i64 d.fuse, .bool d.off], .int .i64 0, .int .i64 1]) ?_ rfl ⟨_, rfl, HO.out.1, HO.out.2⟩
  rw [results_cell_tmp2 rfl]
  go_simp
set_option maxHeartbeats 8000000 in
set_option maxRecDepth 20000 in
theorem rsw_tag0 (d : Dk) (v : Value) (s : Int) (t : Nat) (at' : Int) (zs : List (List UInt8)) (u : Value) (w : World) (h : HasDk w v d) (hf : Fits d) (hu : Frame.HasStrs w u zs) (hn9 : zs.length ≤ 1048576) (hz9 : ∀ z ∈ zs, z.length ≤ 140737488351232)
    (hs9 : -9223372036854775808 ≤ s ∧ s ≤ 9223372036854775807) (ht9 : t < 18446744073709551616) (ha9 : -9223372036854775808 ≤ at' ∧ at' ≤ 9223372036854775807)
    (hly : (longE d).2 = 0) (hr0 : 0 ≤ s ∧ s < 8) (hr : t < 1) :
    Calls Try.prog 10 #[v, .int .i64 s, .int .u64 (t : Int), .int .i64 at', u] w (WrIs (d, 0, 1) w) := by
  have clo := fun W v (hd : HasDk W v d) => rlong_any d v W hd hf
  unfold LongIs at clo
  rw [hly] at clo
  obtain ⟨hokb, h10, h1024, hL⟩ := long_inv hly
  have hOK := ok_of hokb
  have hL127 : (longE d).1 ≤ 127 := by omega
  have ccp := fun W v (hd : HasDk W v d) => Disk.rcopy_any d v W hd (by omega) (by have := hOK.few; omega)
  clear hly hL
  generalize (longE d).1 = L at *
  have hLi : (L : Int) ≤ 127 := by omega
  have d0 : decide (s < 0) = false := decide_eq_false (by omega)
  have d1 : decide ((8 : Int) ≤ s) = false := decide_eq_false (by omega)
  have d2 : decide ((t : Int) < 1) = true := decide_eq_true (by omega)
  have d2' : decide (t < 1) = true := decide_eq_true hr
  clear hr hr0
  obtain ⟨so, sc, co, cc, rfl, hsx, hcx⟩ := h.parts
  obtain ⟨uo, uc, rfl, _⟩ := hu
  obtain ⟨X, hX⟩ : ∃ X, X = (w.alloc (.cells #[.slice so d.secs.length sc, .slice co d.cache.length cc, .int .i64 d.fuse, .bool d.off] 25)).alloc (.cells #[.slice none 0 0, .slice none 0 0, .int .i64 0, .bool false] 25) := ⟨_, rfl⟩
  have HX : Hid (RwAt w X d) := rw_new hsx hcx hX
  obtain ⟨hs0, hs1⟩ := hs9
  obtain ⟨ha0, ha1⟩ := ha9
  have hti : (t : Int) ≤ 18446744073709551615 := by omega
  clear hsx hcx h hf ht9 hn9 hz9
  clear hOK hokb h10 h1024 hL127
  go_enter Try.func10, Try.ntmps10
  go_upto_region 1 with fail
  rw [← hX]
  clear hX
  obtain ⟨s5, s6, s7, s8, vb, hs, hc⟩ := HX.out.disk
  obtain ⟨q0, q1, q2, q3, qf⟩ := vb.cells
  go_wp2_with fail
  go_at_call 12; refine (clo _ _ ⟨_, _, rfl, hs, hc⟩).mono ?_; rintro e w1 ⟨rfl, hb1⟩
  have H1 : Hid (RwAt w w1 d) := HX.out.keep hb1
  clear q0 q1 q2 q3 qf vb hs hc HX hb1 clo
  obtain ⟨s5, s6, s7, s8, vb, hs, hc⟩ := H1.out.disk
  obtain ⟨q0, q1, q2, q3, qf⟩ := vb.cells
  go_wp2_with fail
  go_at_call 8; refine (ccp _ _ ⟨_, _, rfl, hs, hc⟩).mono ?_; rintro e w2 ⟨g1, g2, g3, g4, rfl, ho1, ho2, hb2⟩
  have hs2 : HasStrs w2 (.slice g1 d.secs.length g2) d.secs := Disk.hasRow_own ho1
  have hc2 : HasPuts w2 (.slice g3 d.cache.length g4) d.cache := Disk.hasRow_own ho2
  obtain ⟨X2, hX2⟩ : ∃ X, X = ((((w2.setCell ⟨w.heap.size, 0, none⟩ (.slice g1 d.secs.length g2)).setCell ⟨w.heap.size, 1, none⟩ (.slice g3 d.cache.length g4)).setCell ⟨w.heap.size, 2, none⟩ (.int .i64 d.fuse)).setCell ⟨w.heap.size, 3, none⟩ (.bool d.off)) := ⟨_, rfl⟩
  have H2 : Hid (RwAt w X2 d) := by rw [hX2]; exact (H1.out.keep hb2).store hs2 hc2
  have vb2 := vb.below hb2
  clear q0 q1 q2 q3 qf vb hs hc hs2 hc2 ho1 ho2 hb2 H1 ccp
  obtain ⟨q0, q1, q2, q3, qf⟩ := vb2.cells
  go_upto_region 5 with fail
  rw [← hX2]
  clear hX2 q0 q1 q2 q3 qf vb2
  have hv := H2.out
  obtain ⟨s5, s6, s7, s8, vb, hs, hc⟩ := hv.disk
  obtain ⟨q0, q1, q2, q3, qf⟩ := vb.cells
  obtain ⟨z0, z1, z2, z3, zf⟩ := hv.res.cells
  have HO1 := hv.out hs hc
  have HO : Hid _ := HO1
  clear HO1 hv hs hc vb H2
  go_wp2_with fail
  (try simp only [Exit.inBlock, Exit.then])
  refine bodyPost_ret (v := .tuple #[.agg #[.slice s5 d.secs.length s6, .slice s7 d.cache.length s8, .int .i64 d.fuse, .bool d.off], .int .i64 0, .int .i64 1]) ?_ rfl ⟨_, rfl, HO.out.1, HO.out.2⟩
  rw [results_cell_tmp2 rfl]
  go_simp
set_option maxHeartbeats 8000000 in
set_option maxRecDepth 20000 in
theorem rsw_tagB (d : Dk) (v : Value) (s : Int) (t : Nat) (at' : Int) (zs : List (List UInt8)) (u : Value) (w : World) (h : HasDk w v d) (hf : Fits d) (hu : Frame.HasStrs w u zs) (hn9 : zs.length ≤ 1048576) (hz9 : ∀ z ∈ zs, z.length ≤ 140737488351232)
    (hs9 : -9223372036854775808 ≤ s ∧ s ≤ 9223372036854775807) (ht9 : t < 18446744073709551616) (ha9 : -9223372036854775808 ≤ at' ∧ at' ≤ 9223372036854775807)
    (hly : (longE d).2 = 0) (hr0 : 0 ≤ s ∧ s < 8) (hr1 : 1 ≤ t) (hr : 4611686018427387904 < t) :
    Calls Try.prog 10 #[v, .int .i64 s, .int .u64 (t : Int), .int .i64 at', u] w (WrIs (d, 0, 1) w) := by
  have clo := fun W v (hd : HasDk W v d) => rlong_any d v W hd hf
  unfold LongIs at clo
  rw [hly] at clo
  obtain ⟨hokb, h10, h1024, hL⟩ := long_inv hly
  have hOK := ok_of hokb
  have hL127 : (longE d).1 ≤ 127 := by omega
  have ccp := fun W v (hd : HasDk W v d) => Disk.rcopy_any d v W hd (by omega) (by have := hOK.few; omega)
  clear hly hL
  generalize (longE d).1 = L at *
  have hLi : (L : Int) ≤ 127 := by omega
  have d0 : decide (s < 0) = false := decide_eq_false (by omega)
  have d1 : decide ((8 : Int) ≤ s) = false := decide_eq_false (by omega)
  have d2 : decide ((t : Int) < 1) = false := decide_eq_false (by omega)
  have d2' : decide (t < 1) = false := decide_eq_false (by omega)
  have d3 : decide ((4611686018427387904 : Int) < (t : Int)) = true := decide_eq_true (by omega)
  have d3' : decide (4611686018427387904 < t) = true := decide_eq_true hr
  clear hr hr0 hr1
  obtain ⟨so, sc, co, cc, rfl, hsx, hcx⟩ := h.parts
  obtain ⟨uo, uc, rfl, _⟩ := hu
  obtain ⟨X, hX⟩ : ∃ X, X = (w.alloc (.cells #[.slice so d.secs.length sc, .slice co d.cache.length cc, .int .i64 d.fuse, .bool d.off] 25)).alloc (.cells #[.slice none 0 0, .slice none 0 0, .int .i64 0, .bool false] 25) := ⟨_, rfl⟩
  have HX : Hid (RwAt w X d) := rw_new hsx hcx hX
  obtain ⟨hs0, hs1⟩ := hs9
  obtain ⟨ha0, ha1⟩ := ha9
  have hti : (t : Int) ≤ 18446744073709551615 := by omega
  clear hsx hcx h hf ht9 hn9 hz9
  clear hOK hokb h10 h1024 hL127
  go_enter Try.func10, Try.ntmps10
  go_upto_region 1 with fail
  rw [← hX]
  clear hX
  obtain ⟨s5, s6, s7, s8, vb, hs, hc⟩ := HX.out.disk
  obtain ⟨q0, q1, q2, q3, qf⟩ := vb.cells
  go_wp2_with fail
  go_at_call 12; refine (clo _ _ ⟨_, _, rfl, hs, hc⟩).mono ?_; rintro e w1 ⟨rfl, hb1⟩
  have H1 : Hid (RwAt w w1 d) := HX.out.keep hb1
  clear q0 q1 q2 q3 qf vb hs hc HX hb1 clo
  obtain ⟨s5, s6, s7, s8, vb, hs, hc⟩ := H1.out.disk
  obtain ⟨q0, q1, q2, q3, qf⟩ := vb.cells
  go_wp2_with fail
  go_at_call 8; refine (ccp _ _ ⟨_, _, rfl, hs, hc⟩).mono ?_; rintro e w2 ⟨g1, g2, g3, g4, rfl, ho1, ho2, hb2⟩
  have hs2 : HasStrs w2 (.slice g1 d.secs.length g2) d.secs := Disk.hasRow_own ho1
  have hc2 : HasPuts w2 (.slice g3 d.cache.length g4) d.cache := Disk.hasRow_own ho2
  obtain ⟨X2, hX2⟩ : ∃ X, X = ((((w2.setCell ⟨w.heap.size, 0, none⟩ (.slice g1 d.secs.length g2)).setCell ⟨w.heap.size, 1, none⟩ (.slice g3 d.cache.length g4)).setCell ⟨w.heap.size, 2, none⟩ (.int .i64 d.fuse)).setCell ⟨w.heap.size, 3, none⟩ (.bool d.off)) := ⟨_, rfl⟩
  have H2 : Hid (RwAt w X2 d) := by rw [hX2]; exact (H1.out.keep hb2).store hs2 hc2
  have vb2 := vb.below hb2
  clear q0 q1 q2 q3 qf vb hs hc hs2 hc2 ho1 ho2 hb2 H1 ccp
  obtain ⟨q0, q1, q2, q3, qf⟩ := vb2.cells
  go_upto_region 5 with fail
  rw [← hX2]
  clear hX2 q0 q1 q2 q3 qf vb2
  have hv := H2.out
  obtain ⟨s5, s6, s7, s8, vb, hs, hc⟩ := hv.disk
  obtain ⟨q0, q1, q2, q3, qf⟩ := vb.cells
  obtain ⟨z0, z1, z2, z3, zf⟩ := hv.res.cells
  have HO1 := hv.out hs hc
  have HO : Hid _ := HO1
  clear HO1 hv hs hc vb H2
  go_wp2_with fail
  (try simp only [Exit.inBlock, Exit.then])
  refine bodyPost_ret (v := .tuple #[.agg #[.slice s5 d.secs.length s6, .slice s7 d.cache.length s8, .int .i64 d.fuse, .bool d.off], .int .i64 0, .int .i64 1]) ?_ rfl ⟨_, rfl, HO.out.1, HO.out.2⟩
  rw [results_cell_tmp2 rfl]
  go_simp
set_option maxHeartbeats 8000000 in
set_option maxRecDepth 20000 in
theorem rsw_at0 (d : Dk) (v : Value) (s : Int) (t : Nat) (at' : Int) (zs : List (List UInt8)) (u : Value) (w : World) (h : HasDk w v d) (hf : Fits d) (hu : Frame.HasStrs w u zs) (hn9 : zs.length ≤ 1048576) (hz9 : ∀ z ∈ zs, z.length ≤ 140737488351232)
    (hs9 : -9223372036854775808 ≤ s ∧ s ≤ 9223372036854775807) (ht9 : t < 18446744073709551616) (ha9 : -9223372036854775808 ≤ at' ∧ at' ≤ 9223372036854775807)
    (hly : (longE d).2 = 0) (hr0 : 0 ≤ s ∧ s < 8) (hr1 : 1 ≤ t ∧ t ≤ 4611686018427387904) (hr : at' < 0) :
    Calls Try.prog 10 #[v, .int .i64 s, .int .u64 (t : Int), .int .i64 at', u] w (WrIs (d, 0, 1) w) := by
  have clo := fun W v (hd : HasDk W v d) => rlong_any d v W hd hf
  unfold LongIs at clo
  rw [hly] at clo
  obtain ⟨hokb, h10, h1024, hL⟩ := long_inv hly
  have hOK := ok_of hokb
  have hL127 : (longE d).1 ≤ 127 := by omega
  have ccp := fun W v (hd : HasDk W v d) => Disk.rcopy_any d v W hd (by omega) (by have := hOK.few; omega)
  clear hly hL
  generalize (longE d).1 = L at *
  have hLi : (L : Int) ≤ 127 := by omega
  have d0 : decide (s < 0) = false := decide_eq_false (by omega)
  have d1 : decide ((8 : Int) ≤ s) = false := decide_eq_false (by omega)
  have d2 : decide ((t : Int) < 1) = false := decide_eq_false (by omega)
  have d2' : decide (t < 1) = false := decide_eq_false (by omega)
  have d3 : decide ((4611686018427387904 : Int) < (t : Int)) = false := decide_eq_false (by omega)
  have d3' : decide (4611686018427387904 < t) = false := decide_eq_false (by omega)
  have d4 : decide (at' < 0) = true := decide_eq_true hr
  clear hr hr0 hr1
  obtain ⟨so, sc, co, cc, rfl, hsx, hcx⟩ := h.parts
  obtain ⟨uo, uc, rfl, _⟩ := hu
  obtain ⟨X, hX⟩ : ∃ X, X = (w.alloc (.cells #[.slice so d.secs.length sc, .slice co d.cache.length cc, .int .i64 d.fuse, .bool d.off] 25)).alloc (.cells #[.slice none 0 0, .slice none 0 0, .int .i64 0, .bool false] 25) := ⟨_, rfl⟩
  have HX : Hid (RwAt w X d) := rw_new hsx hcx hX
  obtain ⟨hs0, hs1⟩ := hs9
  obtain ⟨ha0, ha1⟩ := ha9
  have hti : (t : Int) ≤ 18446744073709551615 := by omega
  clear hsx hcx h hf ht9 hn9 hz9
  clear hOK hokb h10 h1024 hL127
  go_enter Try.func10, Try.ntmps10
  go_upto_region 1 with fail
  rw [← hX]
  clear hX
  obtain ⟨s5, s6, s7, s8, vb, hs, hc⟩ := HX.out.disk
  obtain ⟨q0, q1, q2, q3, qf⟩ := vb.cells
  go_wp2_with fail
  go_at_call 12; refine (clo _ _ ⟨_, _, rfl, hs, hc⟩).mono ?_; rintro e w1 ⟨rfl, hb1⟩
  have H1 : Hid (RwAt w w1 d) := HX.out.keep hb1
  clear q0 q1 q2 q3 qf vb hs hc HX hb1 clo
  obtain ⟨s5, s6, s7, s8, vb, hs, hc⟩ := H1.out.disk
  obtain ⟨q0, q1, q2, q3, qf⟩ := vb.cells
  go_wp2_with fail
  go_at_call 8; refine (ccp _ _ ⟨_, _, rfl, hs, hc⟩).mono ?_; rintro e w2 ⟨g1, g2, g3, g4, rfl, ho1, ho2, hb2⟩
  have hs2 : HasStrs w2 (.slice g1 d.secs.length g2) d.secs := Disk.hasRow_own ho1
  have hc2 : HasPuts w2 (.slice g3 d.cache.length g4) d.cache := Disk.hasRow_own ho2
  obtain ⟨X2, hX2⟩ : ∃ X, X = ((((w2.setCell ⟨w.heap.size, 0, none⟩ (.slice g1 d.secs.length g2)).setCell ⟨w.heap.size, 1, none⟩ (.slice g3 d.cache.length g4)).setCell ⟨w.heap.size, 2, none⟩ (.int .i64 d.fuse)).setCell ⟨w.heap.size, 3, none⟩ (.bool d.off)) := ⟨_, rfl⟩
  have H2 : Hid (RwAt w X2 d) := by rw [hX2]; exact (H1.out.keep hb2).store hs2 hc2
  have vb2 := vb.below hb2
  clear q0 q1 q2 q3 qf vb hs hc hs2 hc2 ho1 ho2 hb2 H1 ccp
  obtain ⟨q0, q1, q2, q3, qf⟩ := vb2.cells
  go_upto_region 5 with fail
  rw [← hX2]
  clear hX2 q0 q1 q2 q3 qf vb2
  have hv := H2.out
  obtain ⟨s5, s6, s7, s8, vb, hs, hc⟩ := hv.disk
  obtain ⟨q0, q1, q2, q3, qf⟩ := vb.cells
  obtain ⟨z0, z1, z2, z3, zf⟩ := hv.res.cells
  have HO1 := hv.out hs hc
  have HO : Hid _ := HO1
  clear HO1 hv hs hc vb H2
  go_wp2_with fail
  (try simp only [Exit.inBlock, Exit.then])
  refine bodyPost_ret (v := .tuple #[.agg #[.slice s5 d.secs.length s6, .slice s7 d.cache.length s8, .int .i64 d.fuse, .bool d.off], .int .i64 0, .int .i64 1]) ?_ rfl ⟨_, rfl, HO.out.1, HO.out.2⟩
  rw [results_cell_tmp2 rfl]
  go_simp
set_option maxHeartbeats 8000000 in
set_option maxRecDepth 20000 in
theorem rsw_atB (d : Dk) (v : Value) (s : Int) (t : Nat) (at' : Int) (zs : List (List UInt8)) (u : Value) (w : World) (h : HasDk w v d) (hf : Fits d) (hu : Frame.HasStrs w u zs) (hn9 : zs.length ≤ 1048576) (hz9 : ∀ z ∈ zs, z.length ≤ 140737488351232)
    (hs9 : -9223372036854775808 ≤ s ∧ s ≤ 9223372036854775807) (ht9 : t < 18446744073709551616) (ha9 : -9223372036854775808 ≤ at' ∧ at' ≤ 9223372036854775807)
    (hly : (longE d).2 = 0) (hr0 : 0 ≤ s ∧ s < 8) (hr1 : 1 ≤ t ∧ t ≤ 4611686018427387904) (hr2 : 0 ≤ at') (hr : ((longE d).1 : Int) < at') :
    Calls Try.prog 10 #[v, .int .i64 s, .int .u64 (t : Int), .int .i64 at', u] w (WrIs (d, 0, 1) w) := by
  have clo := fun W v (hd : HasDk W v d) => rlong_any d v W hd hf
  unfold LongIs at clo
  rw [hly] at clo
  obtain ⟨hokb, h10, h1024, hL⟩ := long_inv hly
  have hOK := ok_of hokb
  have hL127 : (longE d).1 ≤ 127 := by omega
  have ccp := fun W v (hd : HasDk W v d) => Disk.rcopy_any d v W hd (by omega) (by have := hOK.few; omega)
  clear hly hL
  generalize (longE d).1 = L at *
  have hLi : (L : Int) ≤ 127 := by omega
  have d0 : decide (s < 0) = false := decide_eq_false (by omega)
  have d1 : decide ((8 : Int) ≤ s) = false := decide_eq_false (by omega)
  have d2 : decide ((t : Int) < 1) = false := decide_eq_false (by omega)
  have d2' : decide (t < 1) = false := decide_eq_false (by omega)
  have d3 : decide ((4611686018427387904 : Int) < (t : Int)) = false := decide_eq_false (by omega)
  have d3' : decide (4611686018427387904 < t) = false := decide_eq_false (by omega)
  have d4 : decide (at' < 0) = false := decide_eq_false (by omega)
  have d5 : decide ((L : Int) < at') = true := decide_eq_true hr
  clear hr hr0 hr1 hr2
  obtain ⟨so, sc, co, cc, rfl, hsx, hcx⟩ := h.parts
  obtain ⟨uo, uc, rfl, _⟩ := hu
  obtain ⟨X, hX⟩ : ∃ X, X = (w.alloc (.cells #[.slice so d.secs.length sc, .slice co d.cache.length cc, .int .i64 d.fuse, .bool d.off] 25)).alloc (.cells #[.slice none 0 0, .slice none 0 0, .int .i64 0, .bool false] 25) := ⟨_, rfl⟩
  have HX : Hid (RwAt w X d) := rw_new hsx hcx hX
  obtain ⟨hs0, hs1⟩ := hs9
  obtain ⟨ha0, ha1⟩ := ha9
  have hti : (t : Int) ≤ 18446744073709551615 := by omega
  clear hsx hcx h hf ht9 hn9 hz9
  clear hOK hokb h10 h1024 hL127
  go_enter Try.func10, Try.ntmps10
  go_upto_region 1 with fail
  rw [← hX]
  clear hX
  obtain ⟨s5, s6, s7, s8, vb, hs, hc⟩ := HX.out.disk
  obtain ⟨q0, q1, q2, q3, qf⟩ := vb.cells
  go_wp2_with fail
  go_at_call 12; refine (clo _ _ ⟨_, _, rfl, hs, hc⟩).mono ?_; rintro e w1 ⟨rfl, hb1⟩
  have H1 : Hid (RwAt w w1 d) := HX.out.keep hb1
  clear q0 q1 q2 q3 qf vb hs hc HX hb1 clo
  obtain ⟨s5, s6, s7, s8, vb, hs, hc⟩ := H1.out.disk
  obtain ⟨q0, q1, q2, q3, qf⟩ := vb.cells
  go_wp2_with fail
  go_at_call 8; refine (ccp _ _ ⟨_, _, rfl, hs, hc⟩).mono ?_; rintro e w2 ⟨g1, g2, g3, g4, rfl, ho1, ho2, hb2⟩
  have hs2 : HasStrs w2 (.slice g1 d.secs.length g2) d.secs := Disk.hasRow_own ho1
  have hc2 : HasPuts w2 (.slice g3 d.cache.length g4) d.cache := Disk.hasRow_own ho2
  obtain ⟨X2, hX2⟩ : ∃ X, X = ((((w2.setCell ⟨w.heap.size, 0, none⟩ (.slice g1 d.secs.length g2)).setCell ⟨w.heap.size, 1, none⟩ (.slice g3 d.cache.length g4)).setCell ⟨w.heap.size, 2, none⟩ (.int .i64 d.fuse)).setCell ⟨w.heap.size, 3, none⟩ (.bool d.off)) := ⟨_, rfl⟩
  have H2 : Hid (RwAt w X2 d) := by rw [hX2]; exact (H1.out.keep hb2).store hs2 hc2
  have vb2 := vb.below hb2
  clear q0 q1 q2 q3 qf vb hs hc hs2 hc2 ho1 ho2 hb2 H1 ccp
  obtain ⟨q0, q1, q2, q3, qf⟩ := vb2.cells
  go_upto_region 5 with fail
  rw [← hX2]
  clear hX2 q0 q1 q2 q3 qf vb2
  have hv := H2.out
  obtain ⟨s5, s6, s7, s8, vb, hs, hc⟩ := hv.disk
  obtain ⟨q0, q1, q2, q3, qf⟩ := vb.cells
  obtain ⟨z0, z1, z2, z3, zf⟩ := hv.res.cells
  have HO1 := hv.out hs hc
  have HO : Hid _ := HO1
  clear HO1 hv hs hc vb H2
  go_wp2_with fail
  (try simp only [Exit.inBlock, Exit.then])
  refine bodyPost_ret (v := .tuple #[.agg #[.slice s5 d.secs.length s6, .slice s7 d.cache.length s8, .int .i64 d.fuse, .bool d.off], .int .i64 0, .int .i64 1]) ?_ rfl ⟨_, rfl, HO.out.1, HO.out.2⟩
  rw [results_cell_tmp2 rfl]
  go_simp
set_option maxHeartbeats 8000000 in
set_option maxRecDepth 20000 in
theorem rsw_need (d : Dk) (v : Value) (s : Int) (t : Nat) (at' : Int) (zs : List (List UInt8)) (u : Value) (w : World) (h : HasDk w v d) (hf : Fits d) (hu : Frame.HasStrs w u zs) (hn9 : zs.length ≤ 1048576) (hz9 : ∀ z ∈ zs, z.length ≤ 140737488351232)
    (hs9 : -9223372036854775808 ≤ s ∧ s ≤ 9223372036854775807) (ht9 : t < 18446744073709551616) (ha9 : -9223372036854775808 ≤ at' ∧ at' ≤ 9223372036854775807)
    (hly : (longE d).2 = 0) (hr0 : 0 ≤ s ∧ s < 8) (hr1 : 1 ≤ t ∧ t ≤ 4611686018427387904) (hr2 : 0 ≤ at') (hr3 : at' ≤ ((longE d).1 : Int)) (y : Int) (hy : (y != 0) = true) (hy2 : (needE zs).2 = y) :
    Calls Try.prog 10 #[v, .int .i64 s, .int .u64 (t : Int), .int .i64 at', u] w (WrIs (d, 0, y) w) := by
  have clo := fun W v (hd : HasDk W v d) => rlong_any d v W hd hf
  unfold LongIs at clo
  rw [hly] at clo
  obtain ⟨hokb, h10, h1024, hL⟩ := long_inv hly
  have hOK := ok_of hokb
  have hL127 : (longE d).1 ≤ 127 := by omega
  have ccp := fun W v (hd : HasDk W v d) => Disk.rcopy_any d v W hd (by omega) (by have := hOK.few; omega)
  clear hly hL
  have cne := fun W (hb : Below w.heap.size w W) => rneed_any zs u W (hu.keep hb) hn9 hz9
  unfold LongIs at cne
  rw [hy2] at cne
  clear hy2
  have hnl := need_le zs
  generalize (needE zs).1 = N at *
  generalize (longE d).1 = L at *
  have hLi : (L : Int) ≤ 127 := by omega
  have d0 : decide (s < 0) = false := decide_eq_false (by omega)
  have d1 : decide ((8 : Int) ≤ s) = false := decide_eq_false (by omega)
  have d2 : decide ((t : Int) < 1) = false := decide_eq_false (by omega)
  have d2' : decide (t < 1) = false := decide_eq_false (by omega)
  have d3 : decide ((4611686018427387904 : Int) < (t : Int)) = false := decide_eq_false (by omega)
  have d3' : decide (4611686018427387904 < t) = false := decide_eq_false (by omega)
  have d4 : decide (at' < 0) = false := decide_eq_false (by omega)
  have d5 : decide ((L : Int) < at') = false := decide_eq_false (by omega)
  clear hr0 hr1 hr2 hr3 hnl
  obtain ⟨so, sc, co, cc, rfl, hsx, hcx⟩ := h.parts
  obtain ⟨uo, uc, rfl, _⟩ := hu
  obtain ⟨X, hX⟩ : ∃ X, X = (w.alloc (.cells #[.slice so d.secs.length sc, .slice co d.cache.length cc, .int .i64 d.fuse, .bool d.off] 25)).alloc (.cells #[.slice none 0 0, .slice none 0 0, .int .i64 0, .bool false] 25) := ⟨_, rfl⟩
  have HX : Hid (RwAt w X d) := rw_new hsx hcx hX
  obtain ⟨hs0, hs1⟩ := hs9
  obtain ⟨ha0, ha1⟩ := ha9
  have hti : (t : Int) ≤ 18446744073709551615 := by omega
  clear hsx hcx h hf ht9 hn9 hz9
  clear hOK hokb h10 h1024 hL127
  go_enter Try.func10, Try.ntmps10
  go_upto_region 1 with fail
  rw [← hX]
  clear hX
  obtain ⟨s5, s6, s7, s8, vb, hs, hc⟩ := HX.out.disk
  obtain ⟨q0, q1, q2, q3, qf⟩ := vb.cells
  go_wp2_with fail
  go_at_call 12; refine (clo _ _ ⟨_, _, rfl, hs, hc⟩).mono ?_; rintro e w1 ⟨rfl, hb1⟩
  have H1 : Hid (RwAt w w1 d) := HX.out.keep hb1
  clear q0 q1 q2 q3 qf vb hs hc HX hb1 clo
  obtain ⟨s5, s6, s7, s8, vb, hs, hc⟩ := H1.out.disk
  obtain ⟨q0, q1, q2, q3, qf⟩ := vb.cells
  go_wp2_with fail
  go_at_call 8; refine (ccp _ _ ⟨_, _, rfl, hs, hc⟩).mono ?_; rintro e w2 ⟨g1, g2, g3, g4, rfl, ho1, ho2, hb2⟩
  have hs2 : HasStrs w2 (.slice g1 d.secs.length g2) d.secs := Disk.hasRow_own ho1
  have hc2 : HasPuts w2 (.slice g3 d.cache.length g4) d.cache := Disk.hasRow_own ho2
  obtain ⟨X2, hX2⟩ : ∃ X, X = ((((w2.setCell ⟨w.heap.size, 0, none⟩ (.slice g1 d.secs.length g2)).setCell ⟨w.heap.size, 1, none⟩ (.slice g3 d.cache.length g4)).setCell ⟨w.heap.size, 2, none⟩ (.int .i64 d.fuse)).setCell ⟨w.heap.size, 3, none⟩ (.bool d.off)) := ⟨_, rfl⟩
  have H2 : Hid (RwAt w X2 d) := by rw [hX2]; exact (H1.out.keep hb2).store hs2 hc2
  have vb2 := vb.below hb2
  clear q0 q1 q2 q3 qf vb hs hc hs2 hc2 ho1 ho2 hb2 H1 ccp
  obtain ⟨q0, q1, q2, q3, qf⟩ := vb2.cells
  go_upto_region 5 with fail
  rw [← hX2]
  clear hX2 q0 q1 q2 q3 qf vb2
  go_wp2_with fail
  go_at_call 14; refine (cne _ H2.out.below).mono ?_; rintro e w3 ⟨rfl, hb3⟩
  have H2' : Hid (RwAt w w3 d) := H2.out.keep hb3
  clear hb3 H2 cne
  have H2 := H2'
  have hv := H2.out
  obtain ⟨s5, s6, s7, s8, vb, hs, hc⟩ := hv.disk
  obtain ⟨q0, q1, q2, q3, qf⟩ := vb.cells
  obtain ⟨z0, z1, z2, z3, zf⟩ := hv.res.cells
  have HO1 := hv.out hs hc
  have HO : Hid _ := HO1
  clear HO1 hv hs hc vb H2
  go_wp2_with fail
  (try simp only [Exit.inBlock, Exit.then])
  refine bodyPost_ret (v := .tuple #[.agg #[.slice s5 d.secs.length s6, .slice s7 d.cache.length s8, .int .i64 d.fuse, .bool d.off], .int .i64 0, .int .i64 y]) ?_ rfl ⟨_, rfl, HO.out.1, HO.out.2⟩
  rw [results_cell_tmp2 rfl]
  go_simp
set_option maxHeartbeats 8000000 in
set_option maxRecDepth 20000 in
theorem rsw_full (d : Dk) (v : Value) (s : Int) (t : Nat) (at' : Int) (zs : List (List UInt8)) (u : Value) (w : World) (h : HasDk w v d) (hf : Fits d) (hu : Frame.HasStrs w u zs) (hn9 : zs.length ≤ 1048576) (hz9 : ∀ z ∈ zs, z.length ≤ 140737488351232)
    (hs9 : -9223372036854775808 ≤ s ∧ s ≤ 9223372036854775807) (ht9 : t < 18446744073709551616) (ha9 : -9223372036854775808 ≤ at' ∧ at' ≤ 9223372036854775807)
    (hly : (longE d).2 = 0) (hr0 : 0 ≤ s ∧ s < 8) (hr1 : 1 ≤ t ∧ t ≤ 4611686018427387904) (hr2 : 0 ≤ at') (hr3 : at' ≤ ((longE d).1 : Int)) (hy2 : (needE zs).2 = 0) (hfu : ((longE d).1 : Int) < at' + ((needE zs).1 : Int)) :
    Calls Try.prog 10 #[v, .int .i64 s, .int .u64 (t : Int), .int .i64 at', u] w (WrIs (d, 0, 8) w) := by
  have clo := fun W v (hd : HasDk W v d) => rlong_any d v W hd hf
  unfold LongIs at clo
  rw [hly] at clo
  obtain ⟨hokb, h10, h1024, hL⟩ := long_inv hly
  have hOK := ok_of hokb
  have hL127 : (longE d).1 ≤ 127 := by omega
  have ccp := fun W v (hd : HasDk W v d) => Disk.rcopy_any d v W hd (by omega) (by have := hOK.few; omega)
  clear hly hL
  have cne := fun W (hb : Below w.heap.size w W) => rneed_any zs u W (hu.keep hb) hn9 hz9
  unfold LongIs at cne
  rw [hy2] at cne
  clear hy2
  have hnl := need_le zs
  generalize (needE zs).1 = N at *
  generalize (longE d).1 = L at *
  have hLi : (L : Int) ≤ 127 := by omega
  have d0 : decide (s < 0) = false := decide_eq_false (by omega)
  have d1 : decide ((8 : Int) ≤ s) = false := decide_eq_false (by omega)
  have d2 : decide ((t : Int) < 1) = false := decide_eq_false (by omega)
  have d2' : decide (t < 1) = false := decide_eq_false (by omega)
  have d3 : decide ((4611686018427387904 : Int) < (t : Int)) = false := decide_eq_false (by omega)
  have d3' : decide (4611686018427387904 < t) = false := decide_eq_false (by omega)
  have d4 : decide (at' < 0) = false := decide_eq_false (by omega)
  have d5 : decide ((L : Int) < at') = false := decide_eq_false (by omega)
  have d6 : decide ((L : Int) - at' < (N : Int)) = true := decide_eq_true (by omega)
  have hNi : (N : Int) ≤ 128 := by omega
  have hai : at' ≤ 127 := by omega
  clear hr0 hr1 hr3 hnl hfu
  obtain ⟨so, sc, co, cc, rfl, hsx, hcx⟩ := h.parts
  obtain ⟨uo, uc, rfl, _⟩ := hu
  obtain ⟨X, hX⟩ : ∃ X, X = (w.alloc (.cells #[.slice so d.secs.length sc, .slice co d.cache.length cc, .int .i64 d.fuse, .bool d.off] 25)).alloc (.cells #[.slice none 0 0, .slice none 0 0, .int .i64 0, .bool false] 25) := ⟨_, rfl⟩
  have HX : Hid (RwAt w X d) := rw_new hsx hcx hX
  obtain ⟨hs0, hs1⟩ := hs9
  obtain ⟨ha0, ha1⟩ := ha9
  have hti : (t : Int) ≤ 18446744073709551615 := by omega
  clear hsx hcx h hf ht9 hn9 hz9
  clear hOK hokb h10 h1024 hL127
  go_enter Try.func10, Try.ntmps10
  go_upto_region 1 with fail
  rw [← hX]
  clear hX
  obtain ⟨s5, s6, s7, s8, vb, hs, hc⟩ := HX.out.disk
  obtain ⟨q0, q1, q2, q3, qf⟩ := vb.cells
  go_wp2_with fail
  go_at_call 12; refine (clo _ _ ⟨_, _, rfl, hs, hc⟩).mono ?_; rintro e w1 ⟨rfl, hb1⟩
  have H1 : Hid (RwAt w w1 d) := HX.out.keep hb1
  clear q0 q1 q2 q3 qf vb hs hc HX hb1 clo
  obtain ⟨s5, s6, s7, s8, vb, hs, hc⟩ := H1.out.disk
  obtain ⟨q0, q1, q2, q3, qf⟩ := vb.cells
  go_wp2_with fail
  go_at_call 8; refine (ccp _ _ ⟨_, _, rfl, hs, hc⟩).mono ?_; rintro e w2 ⟨g1, g2, g3, g4, rfl, ho1, ho2, hb2⟩
  have hs2 : HasStrs w2 (.slice g1 d.secs.length g2) d.secs := Disk.hasRow_own ho1
  have hc2 : HasPuts w2 (.slice g3 d.cache.length g4) d.cache := Disk.hasRow_own ho2
  obtain ⟨X2, hX2⟩ : ∃ X, X = ((((w2.setCell ⟨w.heap.size, 0, none⟩ (.slice g1 d.secs.length g2)).setCell ⟨w.heap.size, 1, none⟩ (.slice g3 d.cache.length g4)).setCell ⟨w.heap.size, 2, none⟩ (.int .i64 d.fuse)).setCell ⟨w.heap.size, 3, none⟩ (.bool d.off)) := ⟨_, rfl⟩
  have H2 : Hid (RwAt w X2 d) := by rw [hX2]; exact (H1.out.keep hb2).store hs2 hc2
  have vb2 := vb.below hb2
  clear q0 q1 q2 q3 qf vb hs hc hs2 hc2 ho1 ho2 hb2 H1 ccp
  obtain ⟨q0, q1, q2, q3, qf⟩ := vb2.cells
  go_upto_region 5 with fail
  rw [← hX2]
  clear hX2 q0 q1 q2 q3 qf vb2
  go_wp2_with fail
  go_at_call 14; refine (cne _ H2.out.below).mono ?_; rintro e w3 ⟨rfl, hb3⟩
  have H2' : Hid (RwAt w w3 d) := H2.out.keep hb3
  clear hb3 H2 cne
  have H2 := H2'
  have hv := H2.out
  obtain ⟨s5, s6, s7, s8, vb, hs, hc⟩ := hv.disk
  obtain ⟨q0, q1, q2, q3, qf⟩ := vb.cells
  obtain ⟨z0, z1, z2, z3, zf⟩ := hv.res.cells
  have HO1 := hv.out hs hc
  have HO : Hid _ := HO1
  clear HO1 hv hs hc vb H2
  go_wp2_with fail
  (try simp only [Exit.inBlock, Exit.then])
  refine bodyPost_ret (v := .tuple #[.agg #[.slice s5 d.secs.length s6, .slice s7 d.cache.length s8, .int .i64 d.fuse, .bool d.off], .int .i64 0, .int .i64 8]) ?_ rfl ⟨_, rfl, HO.out.1, HO.out.2⟩
  rw [results_cell_tmp2 rfl]
  go_simp
theorem rswrite_any (d : Dk) (v : Value) (s : Int) (t : Nat) (at' : Int) (zs : List (List UInt8)) (u : Value) (w : World) (h : HasDk w v d) (hf : Fits d) (hu : Frame.HasStrs w u zs) (hn9 : zs.length ≤ 1048576) (hz9 : ∀ z ∈ zs, z.length ≤ 140737488351232)
    (hs9 : -9223372036854775808 ≤ s ∧ s ≤ 9223372036854775807) (ht9 : t < 18446744073709551616) (ha9 : -9223372036854775808 ≤ at' ∧ at' ≤ 9223372036854775807) :
    Calls Try.prog 10 #[v, .int .i64 s, .int .u64 (t : Int), .int .i64 at', u] w (WrIs (writeS d s t at' zs) w) := by
  by_cases hly : (longE d).2 = 0
  · by_cases hmy : mayE (longE d).1 s t at' zs = 0
    · exact rswrite_ok d v s t at' zs u w h hf hu hn9 hz9 hly hmy
    · have e1 : writeS d s t at' zs = (d, 0, mayE (longE d).1 s t at' zs) := by rw [writeS, if_pos hly, if_neg hmy]
      rw [e1]
      by_cases hr : segB s = true ∧ 1 ≤ t ∧ t ≤ 4611686018427387904 ∧ 0 ≤ at' ∧ at' ≤ ((longE d).1 : Int)
      · have hr0 : 0 ≤ s ∧ s < 8 := of_decide_eq_true hr.1
        by_cases hne : (needE zs).2 = 0
        · have hfu : ((longE d).1 : Int) < at' + ((needE zs).1 : Int) := by
            apply Classical.byContradiction
            intro hc
            exact hmy (by rw [mayE, if_pos hr, if_pos hne, if_neg hc])
          rw [show mayE (longE d).1 s t at' zs = 8 by rw [mayE, if_pos hr, if_pos hne, if_pos hfu]]
          exact rsw_full d v s t at' zs u w h hf hu hn9 hz9 hs9 ht9 ha9 hly hr0 ⟨hr.2.1, hr.2.2.1⟩ hr.2.2.2.1 hr.2.2.2.2 hne hfu
        · rw [show mayE (longE d).1 s t at' zs = (needE zs).2 by rw [mayE, if_pos hr, if_neg hne]]
          exact rsw_need d v s t at' zs u w h hf hu hn9 hz9 hs9 ht9 ha9 hly hr0 ⟨hr.2.1, hr.2.2.1⟩ hr.2.2.2.1 hr.2.2.2.2 _ (by simpa using hne) rfl
      · rw [show mayE (longE d).1 s t at' zs = 1 by rw [mayE, if_neg hr]]
        by_cases c0 : s < 0
        · exact rsw_neg d v s t at' zs u w h hf hu hn9 hz9 hs9 ht9 ha9 hly c0
        by_cases c1 : 8 ≤ s
        · exact rsw_big d v s t at' zs u w h hf hu hn9 hz9 hs9 ht9 ha9 hly c1
        have hr0 : 0 ≤ s ∧ s < 8 := by omega
        by_cases c2 : t < 1
        · exact rsw_tag0 d v s t at' zs u w h hf hu hn9 hz9 hs9 ht9 ha9 hly hr0 c2
        by_cases c3 : 4611686018427387904 < t
        · exact rsw_tagB d v s t at' zs u w h hf hu hn9 hz9 hs9 ht9 ha9 hly hr0 (by omega) c3
        by_cases c4 : at' < 0
        · exact rsw_at0 d v s t at' zs u w h hf hu hn9 hz9 hs9 ht9 ha9 hly hr0 ⟨by omega, by omega⟩ c4
        by_cases c5 : ((longE d).1 : Int) < at'
        · exact rsw_atB d v s t at' zs u w h hf hu hn9 hz9 hs9 ht9 ha9 hly hr0 ⟨by omega, by omega⟩ (by omega) c5
        exact absurd ⟨decide_eq_true hr0, by omega, by omega, by omega, by omega⟩ hr
  · rw [writeS, if_neg hly]
    exact rsw_long d v s t at' zs u w h hf hu hn9 hz9 hs9 ht9 ha9 _ (by simpa using hly) rfl
end Go.Proofs.Ytbikcpchlgmoaaa.Seg
namespace Go.Proofs.Ytbikcpchlgmoaaa
namespace segmentWrites
open Go.ChangeShapes Go.WideShapes Go.ChangeAt Go.RowKit
open Go.ChangeMaps (open_string shut_string)
open Go.Proofs.Ytbikcpchlgmoaaa.Seg
open Go.Proofs.Ytbikcpchlgmoaaa.Page (IsStrsS isStrsS_nil isStrsS_of)
open Go.Proofs.Ytbikcpchlgmoaaa.Disk (VDk back_of Back Dk HasDk Fits VBox HasStrs HasPuts rcopy_any rsame_any okB ok_of Ok writeD below2)

theorem own : ownKnob Try.prog.godebug = none := by kernel_rfl
theorem laidOut : laidOutB Try.prog = true := by kernel_rfl
theorem bulk_pos {H : Type} (d : DataW H) : 1 ≤ Rows.uptoBulk d := by
  cases d with
  | lit l => cases l <;> simp [Rows.uptoBulk]
  | _ => simp [Rows.uptoBulk]
theorem bulk_many {H : Type} (l : List (DataW H)) : l.length ≤ Rows.uptoBulkAll l := by
  induction l with
  | nil => exact Nat.zero_le _
  | cons d r ih =>
    have h1 := bulk_pos d
    rw [Rows.uptoBulkAll, List.length_cons]
    omega
theorem bulk_at {H : Type} : ∀ (l : List (DataW H)) (j : Nat) (d : DataW H), l[j]? = some d → Rows.uptoBulk d ≤ Rows.uptoBulkAll l
  | [], j, d, h => by simp at h
  | x :: r, 0, d, h => by
    obtain rfl : x = d := by simpa using h
    rw [Rows.uptoBulkAll]; omega
  | x :: r, j + 1, d, h => by
    have := bulk_at r j d (by simpa using h)
    rw [Rows.uptoBulkAll]; omega
theorem bulk_row {H : Type} {l : List (DataW H)} (hk : Rows.uptoSmall H l = true) {j : Nat} {elems spare : List (DataW H)} (h : l[j]? = some (.slice elems spare)) : elems.length ≤ 1048576 := by
  have h1 := bulk_at l j _ h
  have h2 := bulk_many elems
  have h3 : Rows.uptoBulkAll l ≤ 1048576 := of_decide_eq_true hk
  simp only [Rows.uptoBulk] at h1
  omega
theorem bulk_text {H : Type} {l : List (DataW H)} (hk : Rows.uptoSmall H l = true) {j : Nat} {elems spare : List (DataW H)} (h : l[j]? = some (.slice elems spare)) {i : Nat} {s : List UInt8} (hi : elems[i]? = some (.lit (.string s))) : s.length ≤ 1048576 := by
  have h1 := bulk_at l j _ h
  have h2 := bulk_at elems i _ hi
  have h3 : Rows.uptoBulkAll l ≤ 1048576 := of_decide_eq_true hk
  simp only [Rows.uptoBulk] at h1 h2
  omega
theorem putAll_ok : ∀ (ps : List (List UInt8)) (d : Dk) (b : Nat), Ok d → Ok (putAll d b ps).1
  | [], d, b, h => h
  | p :: ps, d, b, h => by
    rw [putAll]
    split
    · exact putAll_ok ps _ _ (Disk.write_ok h _ _)
    · exact Disk.write_ok h _ _
theorem write_small {d : Dk} {s : Int} {t : Nat} {at' : Int} {zs : List (List UInt8)} (h : d.secs.length ≤ 8796093022208 ∧ d.cache.length ≤ 5864062014805) : (writeS d s t at' zs).1.secs.length ≤ 10000000000000 ∧ (writeS d s t at' zs).1.cache.length ≤ 10000000000000 := by
  unfold writeS
  split
  · rename_i hly
    split
    · have ho := ok_of (long_inv hly).1
      have h2 := putAll_ok (pagesR (t + at'.toNat) zs) d (2 + s.toNat * (longE d).1 + at'.toNat) ho
      have := h2.many; have := h2.few
      split
      · simp only; omega
      · simp only; omega
    · simp only; omega
  · exact ⟨Nat.zero_le _, Nat.zero_le _⟩
set_option maxHeartbeats 8000000 in
set_option maxRecDepth 20000 in
theorem core (D0 d1 : Dk) (n1 y1 x1 x2 p1 p2 : Int) (s at' : Int) (t : Nat) (zs : List (List UInt8)) (so co uo : Option Addr) (sc cc ul uc : Nat) (w : World) (hs0 : HasStrs w (.slice so D0.secs.length sc) D0.secs) (hc0 : HasPuts w (.slice co D0.cache.length cc) D0.cache) (hu : Frame.HasStrs w (.slice uo ul uc) zs)
    (ccp : ∀ W v, HasDk W v D0 → Calls Try.prog 8 #[v] W fun e w' => ∃ so sc co cc, e = .returned (.agg #[.slice so D0.secs.length sc, .slice co D0.cache.length cc, .int .i64 D0.fuse, .bool D0.off]) ∧ HasStrs w' (.slice so D0.secs.length sc) D0.secs ∧ HasPuts w' (.slice co D0.cache.length cc) D0.cache ∧ Below W.heap.size W w')
    (csw : ∀ W v, HasDk W v D0 → Frame.HasStrs W (.slice uo ul uc) zs → Calls Try.prog 9 #[v, .int .i64 s, .int .u64 (t : Int), .int .i64 at', .slice uo ul uc] W (WrB d1 n1 y1 W))
    (crw : ∀ W v, HasDk W v D0 → Frame.HasStrs W (.slice uo ul uc) zs → Calls Try.prog 10 #[v, .int .i64 s, .int .u64 (t : Int), .int .i64 at', .slice uo ul uc] W (WrB d1 n1 y1 W))
    (clo : ∀ W v, HasDk W v D0 → Calls Try.prog 11 #[v] W fun e w' => e = .returned (.tuple #[.int .i64 x1, .int .i64 x2]) ∧ Below W.heap.size W w')
    (crl : ∀ W v, HasDk W v D0 → Calls Try.prog 12 #[v] W fun e w' => e = .returned (.tuple #[.int .i64 x1, .int .i64 x2]) ∧ Below W.heap.size W w')
    (cne : ∀ W, Frame.HasStrs W (.slice uo ul uc) zs → Calls Try.prog 13 #[.slice uo ul uc] W fun e w' => e = .returned (.tuple #[.int .i64 p1, .int .i64 p2]) ∧ Below W.heap.size W w')
    (crn : ∀ W, Frame.HasStrs W (.slice uo ul uc) zs → Calls Try.prog 14 #[.slice uo ul uc] W fun e w' => e = .returned (.tuple #[.int .i64 p1, .int .i64 p2]) ∧ Below W.heap.size W w')
    (cs0 : ∀ W v u, HasDk W v D0 → HasDk W u D0 → Calls Try.prog 16 #[v, u] W fun e w' => e = .returned (.bool true) ∧ Below W.heap.size W w')
    (cs1 : ∀ W v u, HasDk W v d1 → HasDk W u d1 → Calls Try.prog 16 #[v, u] W fun e w' => e = .returned (.bool true) ∧ Below W.heap.size W w') :
    Calls Try.prog 3 #[.agg #[.slice so D0.secs.length sc, .slice co D0.cache.length cc, .int .i64 D0.fuse, .bool D0.off], .int .i64 s, .int .u64 (t : Int), .int .i64 at', .slice uo ul uc] w fun e w' => e = .returned (.bool true) ∧ Below w.heap.size w w' := by
  obtain ⟨X, hX⟩ : ∃ X, X = w.alloc (.cells #[.slice so D0.secs.length sc, .slice co D0.cache.length cc, .int .i64 D0.fuse, .bool D0.off] 25) := ⟨_, rfl⟩
  have hW : Below w.heap.size w X := by rw [hX]; exact (Below.refl _ w).alloc (Nat.le_refl _) _
  have V0 : Hid (VDk X w.heap.size D0) := by rw [hX]; exact VDk.new hs0 hc0
  have HU : Hid (∀ W, Below w.heap.size w W → Frame.HasStrs W (.slice uo ul uc) zs) := fun W hb => hu.keep hb
  unfold WrB at csw crw
  clear hs0 hc0 hu
  go_enter Try.func3, Try.ntmps3
  go_upto_region 1 with fail
  rw [← hX]
  clear hX
  obtain ⟨s1, s2, s3, s4, vbq, hsq, hcq⟩ := V0.out
  obtain ⟨q0, q1, q2, q3, qf⟩ := vbq.cells
  go_wp2_with fail
  go_at_call 8; refine (ccp _ _ ⟨_, _, rfl, hsq, hcq⟩).mono ?_; rintro e w1 ⟨g1, g2, g3, g4, rfl, hs1, hc1, hb1⟩
  obtain ⟨X1, hX1⟩ : ∃ X, X = w1.alloc (.cells #[.slice g1 D0.secs.length g2, .slice g3 D0.cache.length g4, .int .i64 D0.fuse, .bool D0.off] 25) := ⟨_, rfl⟩
  obtain ⟨bg, hbg⟩ : ∃ b, b = w1.heap.size := ⟨_, rfl⟩
  have hbX : Below w1.heap.size w1 X1 := by rw [hX1]; exact (Below.refl _ _).alloc (Nat.le_refl _) _
  have hb := below2 hb1 hbX
  have VG : Hid (VDk X1 bg D0) := by rw [hX1, hbg]; exact VDk.new hs1 hc1
  have V0 : Hid (VDk X1 w.heap.size D0) := V0.out.below hb
  have hW := below2 hW hb
  go_upto_region 2 with fail
  rw [← hX1, ← hbg]
  clear hX1 hbg hbX hb hb1 hs1 hc1 ccp
  clear q0 q1 q2 q3 qf vbq hsq hcq
  obtain ⟨s1, s2, s3, s4, vbq, hsq, hcq⟩ := VG.out
  obtain ⟨q0, q1, q2, q3, qf⟩ := vbq.cells
  go_wp2_with fail
  go_at_call 9; refine (csw _ _ ⟨_, _, rfl, hsq, hcq⟩ (HU.out _ hW)).mono ?_; rintro e w2 ⟨a1, a2, a3, a4, rfl, hs1, hc1, hb1⟩
  obtain ⟨X2, hX2⟩ : ∃ X, X = w2.alloc (.cells #[.slice a1 d1.secs.length a2, .slice a3 d1.cache.length a4, .int .i64 d1.fuse, .bool d1.off] 25) := ⟨_, rfl⟩
  obtain ⟨ba, hba⟩ : ∃ b, b = w2.heap.size := ⟨_, rfl⟩
  have hbX : Below w2.heap.size w2 X2 := by rw [hX2]; exact (Below.refl _ _).alloc (Nat.le_refl _) _
  have hb := below2 hb1 hbX
  have VA : Hid (VDk X2 ba d1) := by rw [hX2, hba]; exact VDk.new hs1 hc1
  have V0 : Hid (VDk X2 w.heap.size D0) := V0.out.below hb
  have VG : Hid (VDk X2 bg D0) := VG.out.below hb
  have hW := below2 hW hb
  go_upto_region 3 with fail
  rw [← hX2, ← hba]
  clear hX2 hba hbX hb hb1 hs1 hc1 csw
  clear q0 q1 q2 q3 qf vbq hsq hcq
  obtain ⟨s1, s2, s3, s4, vbq, hsq, hcq⟩ := V0.out
  obtain ⟨q0, q1, q2, q3, qf⟩ := vbq.cells
  go_wp2_with fail
  go_at_call 10; refine (crw _ _ ⟨_, _, rfl, hsq, hcq⟩ (HU.out _ hW)).mono ?_; rintro e w3 ⟨e1, e2, e3, e4, rfl, hs1, hc1, hb1⟩
  obtain ⟨X3, hX3⟩ : ∃ X, X = w3.alloc (.cells #[.slice e1 d1.secs.length e2, .slice e3 d1.cache.length e4, .int .i64 d1.fuse, .bool d1.off] 25) := ⟨_, rfl⟩
  obtain ⟨be, hbe⟩ : ∃ b, b = w3.heap.size := ⟨_, rfl⟩
  have hbX : Below w3.heap.size w3 X3 := by rw [hX3]; exact (Below.refl _ _).alloc (Nat.le_refl _) _
  have hb := below2 hb1 hbX
  have VE : Hid (VDk X3 be d1) := by rw [hX3, hbe]; exact VDk.new hs1 hc1
  have V0 : Hid (VDk X3 w.heap.size D0) := V0.out.below hb
  have VG : Hid (VDk X3 bg D0) := VG.out.below hb
  have VA : Hid (VDk X3 ba d1) := VA.out.below hb
  have hW := below2 hW hb
  go_upto_region 4 with fail
  rw [← hX3, ← hbe]
  clear hX3 hbe hbX hb hb1 hs1 hc1 crw
  clear q0 q1 q2 q3 qf vbq hsq hcq
  obtain ⟨s1, s2, s3, s4, vbq, hsq, hcq⟩ := VG.out
  obtain ⟨q0, q1, q2, q3, qf⟩ := vbq.cells
  go_wp2_with fail
  go_at_call 11; refine (clo _ _ ⟨_, _, rfl, hsq, hcq⟩).mono ?_; rintro e w4 ⟨rfl, hb⟩
  clear q0 q1 q2 q3 qf vbq hsq hcq
  have V0 : Hid (VDk w4 w.heap.size D0) := V0.out.below hb
  have VG : Hid (VDk w4 bg D0) := VG.out.below hb
  have VA : Hid (VDk w4 ba d1) := VA.out.below hb
  have VE : Hid (VDk w4 be d1) := VE.out.below hb
  have hW := below2 hW hb
  clear hb clo
  obtain ⟨s1, s2, s3, s4, vbq, hsq, hcq⟩ := V0.out
  obtain ⟨q0, q1, q2, q3, qf⟩ := vbq.cells
  go_wp2_with fail
  go_at_call 12; refine (crl _ _ ⟨_, _, rfl, hsq, hcq⟩).mono ?_; rintro e w5 ⟨rfl, hb⟩
  clear q0 q1 q2 q3 qf vbq hsq hcq
  have V0 : Hid (VDk w5 w.heap.size D0) := V0.out.below hb
  have VG : Hid (VDk w5 bg D0) := VG.out.below hb
  have VA : Hid (VDk w5 ba d1) := VA.out.below hb
  have VE : Hid (VDk w5 be d1) := VE.out.below hb
  have hW := below2 hW hb
  clear hb crl
  go_wp2_with fail
  go_at_call 13; refine (cne _ (HU.out _ hW)).mono ?_; rintro e w6 ⟨rfl, hb⟩
  have V0 : Hid (VDk w6 w.heap.size D0) := V0.out.below hb
  have VG : Hid (VDk w6 bg D0) := VG.out.below hb
  have VA : Hid (VDk w6 ba d1) := VA.out.below hb
  have VE : Hid (VDk w6 be d1) := VE.out.below hb
  have hW := below2 hW hb
  clear hb cne
  go_wp2_with fail
  go_at_call 14; refine (crn _ (HU.out _ hW)).mono ?_; rintro e w7 ⟨rfl, hb⟩
  have V0 : Hid (VDk w7 w.heap.size D0) := V0.out.below hb
  have VG : Hid (VDk w7 bg D0) := VG.out.below hb
  have VA : Hid (VDk w7 ba d1) := VA.out.below hb
  have VE : Hid (VDk w7 be d1) := VE.out.below hb
  have hW := below2 hW hb
  clear hb crn HU
  go_wp2_with fail
  go_at_call 15; refine (Seg.lives_any _).mono ?_; rintro e w8 ⟨rfl, hb⟩
  have V0 : Hid (VDk w8 w.heap.size D0) := V0.out.below hb
  have VG : Hid (VDk w8 bg D0) := VG.out.below hb
  have VA : Hid (VDk w8 ba d1) := VA.out.below hb
  have VE : Hid (VDk w8 be d1) := VE.out.below hb
  have hW := below2 hW hb
  clear hb 
  obtain ⟨s1, s2, s3, s4, vbq, hsq, hcq⟩ := VA.out
  obtain ⟨q0, q1, q2, q3, qf⟩ := vbq.cells
  obtain ⟨t1, t2, t3, t4, vbp, hsp, hcp⟩ := VE.out
  obtain ⟨p0, p1, p2, p3, pf⟩ := vbp.cells
  go_wp2_with fail
  go_at_call 16; refine (cs1 _ _ _ ⟨_, _, rfl, hsq, hcq⟩ ⟨_, _, rfl, hsp, hcp⟩).mono ?_; rintro e w9 ⟨rfl, hb⟩
  clear q0 q1 q2 q3 qf vbq hsq hcq
  clear p0 p1 p2 p3 pf vbp hsp hcp
  have V0 : Hid (VDk w9 w.heap.size D0) := V0.out.below hb
  have VG : Hid (VDk w9 bg D0) := VG.out.below hb
  have hW := below2 hW hb
  clear hb cs1 VA VE
  obtain ⟨s1, s2, s3, s4, vbq, hsq, hcq⟩ := VG.out
  obtain ⟨q0, q1, q2, q3, qf⟩ := vbq.cells
  obtain ⟨t1, t2, t3, t4, vbp, hsp, hcp⟩ := V0.out
  obtain ⟨p0, p1, p2, p3, pf⟩ := vbp.cells
  go_wp2_with fail
  go_at_call 16; refine (cs0 _ _ _ ⟨_, _, rfl, hsq, hcq⟩ ⟨_, _, rfl, hsp, hcp⟩).mono ?_; rintro e w10 ⟨rfl, hb⟩
  have hW := below2 hW hb
  clear q0 q1 q2 q3 qf vbq hsq hcq
  clear p0 p1 p2 p3 pf vbp hsp hcp
  clear hb cs0 VG V0
  go_wp2
  go_ret
  exact ⟨rfl, hW⟩
theorem walk (v0 : Value) (D0 : Dk) (s : Int) (t9 : Int) (at' : Int) (uo : Option Addr) (ul uc : Nat) (zs : List (List UInt8)) (w : World) (b0 : HasDk w v0 D0) (f0 : Fits D0) (s0 : D0.secs.length ≤ 8796093022208 ∧ D0.cache.length ≤ 5864062014805)
    (b1 : -9223372036854775808 ≤ s ∧ s ≤ 9223372036854775807) (b2 : 0 ≤ t9 ∧ t9 ≤ 18446744073709551615) (b3 : -9223372036854775808 ≤ at' ∧ at' ≤ 9223372036854775807) (b4 : IsStrsS w uo ul uc zs ∧ zs.length ≤ 1048576 ∧ ∀ z ∈ zs, z.length ≤ 1048576) :
    Calls Try.prog 3 #[v0, .int .i64 s, .int .u64 t9, .int .i64 at', .slice uo ul uc] w fun e w' => e = .returned (.bool true) ∧ Below w.heap.size w w' := by
  obtain ⟨so, sc, co, cc, rfl, hs, hc⟩ := b0.parts
  obtain ⟨t, rfl⟩ := Int.eq_ofNat_of_zero_le b2.1
  have hu : Frame.HasStrs w (.slice uo ul uc) zs := b4.1.1
  have hz9 : ∀ z ∈ zs, z.length ≤ 140737488351232 := fun z hz => by have := b4.2.2 z hz; omega
  have hz8 : ∀ z ∈ zs, z.length ≤ 9223372036854775807 := fun z hz => by have := b4.2.2 z hz; omega
  have hsm := write_small (s := s) (t := t) (at' := at') (zs := zs) s0
  refine core D0 (writeS D0 s t at' zs).1 ((writeS D0 s t at' zs).2.1 : Int) (writeS D0 s t at' zs).2.2 ((longE D0).1 : Int) (longE D0).2 ((needE zs).1 : Int) (needE zs).2 s at' t zs so co uo sc cc ul uc w hs hc hu ?_
    (fun W v h g => (swrite_any D0 v s t at' zs _ W h f0 g (by have := b4.2.1; omega) hz8 b1 (by omega) b3).mono (fun e w' h => wrb_of h))
    (fun W v h g => (rswrite_any D0 v s t at' zs _ W h f0 g b4.2.1 hz9 b1 (by omega) b3).mono (fun e w' h => wrb_of h))
    (fun W v h => long_any D0 v W h f0) (fun W v h => rlong_any D0 v W h f0)
    (fun W g => need_any zs _ W g (by have := b4.2.1; omega) hz8) (fun W g => rneed_any zs _ W g b4.2.1 hz9)
    (fun W v u h g => rsame_any D0 v u W h g (by omega) (by omega)) (fun W v u h g => rsame_any _ v u W h g hsm.1 hsm.2)
  intro W v h
  refine (rcopy_any D0 v W h s0.1 s0.2).mono ?_
  rintro e w' ⟨so, sc, co, cc, rfl, h1, h2, hb⟩
  exact ⟨so, sc, co, cc, rfl, Disk.hasRow_own h1, Disk.hasRow_own h2, hb⟩

set_option maxRecDepth 100000 in
theorem contract (H : Type) (enc : TypeId × Value → H) (W : World) (base : Nat) (args : Array Value) (ds gs : List (DataW H)) (before : List MemPlace)
    (hval0 : ∀ (j : Nat) t v, Try.f3.params[j]? = some t → args[j]? = some v → Value.okWide Try.prog W .any base t v)
    (hW : DataW.Whole enc Try.prog Try.f3.params.toList Rows.segmentWritesSpec.vars false W args.toList ds gs before) (hk : Rows.uptoSmall H (ds ++ gs) = true)
    (hsz0 : (DataW.weightsEach Try.prog (Try.f3.params.toList ++ Rows.segmentWritesSpec.plain.varTypes Try.prog) (ds ++ gs)).all (· ≤ reachBytes) = true) :
    Calls Try.prog 3 args W fun e W' => ∃ v, e = .returned v ∧ Rows.segmentWritesSpec.post enc Try.prog Try.f3 false true false false W args v W' := by
  have hsz : (DataW.weightsEach Try.prog (Try.f3.params.toList ++ Rows.segmentWritesSpec.plain.varTypes Try.prog) (ds ++ gs)).all (· ≤ reachBytes) = true := hsz0
  clear hsz0
  have hval : ∀ (j : Nat) t v, Try.f3.params[j]? = some t → args[j]? = some v → Value.okWide Try.prog W .any base t v := hval0
  have hW' := hW
  obtain ⟨p, q, hA0, hV, rfl, hfz, hnd⟩ := hW
  have hA : DataW.TrodAll enc Try.prog W 0 (fun _ => true) true Try.f3.params.toList args.toList ds p := hA0
  rw [Try.params3] at hA hval hsz
  obtain ⟨v0, vs0, d0, ds0, p0, q0, hargs, rfl, rfl, h0, r0⟩ := trodAll_cons hA
  obtain ⟨v1, vs1, d1, ds1, p1, q1, rfl, rfl, rfl, h1, r1⟩ := trodAll_cons r0
  obtain ⟨v2, vs2, d2, ds2, p2, q2, rfl, rfl, rfl, h2, r2⟩ := trodAll_cons r1
  obtain ⟨v3, vs3, d3, ds3, p3, q3, rfl, rfl, rfl, h3, r3⟩ := trodAll_cons r2
  obtain ⟨v4, vs4, d4, ds4, p4, q4, rfl, rfl, rfl, h4, r4⟩ := trodAll_cons r3
  obtain ⟨rfl, rfl, rfl⟩ := trodAll_nil r4
  obtain rfl : args = #[v0, v1, v2, v3, v4] := by cases args; simp_all
  obtain ⟨rfl, rfl⟩ := trodVars_none hV
  have k0 := h0
  have lt0 : ∀ x ∈ p0, x.block < W.heap.size := by obtain ⟨m, hm⟩ := k0; exact DataW.trod_lt m _ _ _ hm
  obtain ⟨D0, b0, f0, s0⟩ := Disk.open_disk_s (hval 0 25 v0 rfl rfl) h0 (fun n hn => by
    have := List.all_eq_true.1 hsz n (DataW.weights_mem_each (j := 0) rfl rfl n hn)
    simpa using this)
  obtain ⟨a1, rfl, rfl, rfl, w1⟩ := open_int Try.underlying3 (hval 1 3 v1 rfl rfl) h1
  have b1 : -9223372036854775808 ≤ a1 ∧ a1 ≤ 9223372036854775807 := by simpa [Lit.wf, IntKind.min, IntKind.max, IntKind.signed, IntKind.bits] using w1
  obtain ⟨a2, rfl, rfl, rfl, w2⟩ := open_int Try.underlying26 (hval 2 26 v2 rfl rfl) h2
  have b2 : 0 ≤ a2 ∧ a2 ≤ 18446744073709551615 := by simpa [Lit.wf, IntKind.min, IntKind.max, IntKind.signed, IntKind.bits] using w2
  obtain ⟨a3, rfl, rfl, rfl, w3⟩ := open_int Try.underlying3 (hval 3 3 v3 rfl rfl) h3
  have b3 : -9223372036854775808 ≤ a3 ∧ a3 ≤ 9223372036854775807 := by simpa [Lit.wf, IntKind.min, IntKind.max, IntKind.signed, IntKind.bits] using w3
  obtain ⟨a4, len4, cap4, rfl⟩ := okWide_slice Try.underlying22 (hval 4 22 v4 rfl rfl)
  have k4 := h4
  have lt4 : ∀ x ∈ p4, x.block < W.heap.size := by obtain ⟨m, hm⟩ := k4; exact DataW.trod_lt m _ _ _ hm
  obtain ⟨z4, b4⟩ : ∃ zs, IsStrsS W a4 len4 cap4 zs ∧ zs.length ≤ 1048576 ∧ ∀ z ∈ zs, z.length ≤ 1048576 := by
    obtain ⟨fuel, hf⟩ := h4
    rcases Go.Deep.open_strs Try.underlying22 Try.underlying9 (by kernel_rfl) hf with ⟨hcs, _⟩ | ⟨x, l, c, m, Sx, hcs, _, hl, hm, hmm, hx, hr⟩
    · simp [Value.cells] at hcs
      obtain ⟨rfl, rfl, rfl⟩ := hcs
      exact ⟨[], isStrsS_nil W, by simp, by simp⟩
    · simp [Value.cells] at hcs
      obtain ⟨rfl, rfl, rfl⟩ := hcs
      have hs := sized_slice hsz (j := 4) (t := 22) (e := 9) rfl (congrArg some (Prod.mk.inj hx).1) Try.underlying22
      rw [show Try.prog.bytesOf 9 = 16 by kernel_rfl] at hs
      have hbk := bulk_row hk (j := 4) (congrArg some (Prod.mk.inj hx).1)
      have hbt := fun i s hi => bulk_text hk (j := 4) (congrArg some (Prod.mk.inj hx).1) (i := i) (s := s) hi
      refine ⟨_, isStrsS_of hl hm (fun i hi => hr i (by rw [hmm]; split <;> omega)) (by simpa [reachBytes] using Nat.le_trans (Nat.mul_le_mul_right 16 (Nat.le_add_right _ _)) hs), by simpa using hbk, fun z hz => ?_⟩
      obtain ⟨i, hi, rfl⟩ := List.mem_map.1 hz
      exact hbt i _ (by rw [List.getElem?_map, List.getElem?_range (List.mem_range.1 hi)]; rfl)
  clear hA0 hval0
  refine (walk v0 D0 a1 a2 a3 a4 len4 cap4 z4 W b0 f0 s0 b1 b2 b3 b4).mono fun e W' ⟨he, bel⟩ => ?_
  subst he
  exact ⟨_, rfl, _, _, _, [], _, [], hW', trodAll_mk1 (shut_bool Try.underlying4 _), (trodAll_cons_mk (Below.trod laidOut (by kernel_rfl) (of_decide_eq_true (by kernel_rfl)) k0 bel lt0) (trodAll_cons_mk (shut_int Try.underlying3 w1) (trodAll_cons_mk (shut_int Try.underlying26 w2) (trodAll_cons_mk (shut_int Try.underlying3 w3) (trodAll_cons_mk (Below.trod laidOut (by kernel_rfl) (of_decide_eq_true (by kernel_rfl)) k4 bel lt4) trodAll_mk0))))), rfl, bel.frame _, fun h => by cases h⟩
set_option maxRecDepth 100000 in
theorem lifted (os : Os) (started : os.Started) (H : Type) (enc : TypeId × Value → H) (F : Stop.Interp) :
    ReturnsInHanded {} Try.checked os 3 .any ((Rows.OpenSpec.upto Rows.segmentWritesSpec).pre6 enc Try.prog Try.f3 Rows.segmentWritesUptoRow.domain false) (((Rows.OpenSpec.upto Rows.segmentWritesSpec).at F).post enc Try.prog Try.f3 false true false false) := by
  refine returnsInHanded_of_cond_sized (C := Try.checked) (s := Rows.OpenSpec.upto Rows.segmentWritesSpec) (k := Rows.uptoSmall) rfl own started (by kernel_rfl) Try.func3
    (OpenSpec.witness (enc := enc) (C := Try.checked) (s := Rows.OpenSpec.upto Rows.segmentWritesSpec) (k := Rows.uptoSmall) rfl false ⟨#[], #[.agg #[.slice none 0 0, .slice none 0 0, .int .i64 0, .bool false], .int .i64 0, .int .u64 0, .int .i64 0, .slice none 0 0], []⟩ 8 (by kernel_rfl) (by kernel_rfl) (by kernel_rfl)
      (x := ([.agg [.nil, .nil, .lit (.int .i64 0), .lit (.bool false)], .lit (.int .i64 0), .lit (.int .u64 0), .lit (.int .i64 0), .nil], [], [])) (by kernel_rfl) rfl (by kernel_rfl)) ?_
  intro W base args ds gs before hval hW _ hk hsz _
  exact contract H enc W base args ds gs before hval hW hk hsz

theorem over : Rows.segmentWritesUptoRow.holds Try.pinned (Rows.OpenSpec.upto Rows.segmentWritesSpec) :=
  OpenClaim.holds_of_cond 3 Try.f3 rfl rfl rfl rfl rfl rfl rfl ⟨rfl, rfl, rfl, rfl, rfl⟩ rfl rfl rfl rfl rfl (by kernel_rfl) Try.func3 (by kernel_rfl)
    (of_decide_eq_true (by kernel_rfl)) (by unfold Func.isWrapper; first | (rw [if_pos (by decide +kernel)]; kernel_rfl) | (rw [if_neg (by decide +kernel)]; exact ⟨rfl, rfl⟩))
    (fun os started H enc _ F => lifted os started H enc F)
end segmentWrites
theorem swrites_holds : Rows.SegmentWritesUptoSaid := segmentWrites.over
#print axioms swrites_holds
end Go.Proofs.Ytbikcpchlgmoaaa
