/- For every disk, segment, tag and number: spoorlaw07.SegmentReads returns true, and changes nothing that was there. No condition. -/
import Derived.Test.YtbikcpchlgmoaaaWalkSame4
import Derived.Test.YtbikcpchlgmoaaaDiskMath
import Derived.Test.YtbikcpchlgmoaaaDiskVar
import Derived.Test.YtbikcpchlgmoaaaDiskRef
import Derived.Test.YtbikcpchlgmoaaaPageJoin
import Derived.Test.YtbikcpchlgmoaaaPageSplit
import Derived.Test.YtbikcpchlgmoaaaDiskRef7
import Derived.Test.YtbikcpchlgmoaaaPageRef3
import Derived.Test.YtbikcpchlgmoaaaWalkTake
import Derived.Test.YtbikcpchlgmoaaaWalkRef4
import Derived.Test.YtbikcpchlgmoaaaManFresh
import Derived.Test.YtbikcpchlgmoaaaDiskMake2
import Derived.Test.YtbikcpchlgmoaaaPageRef
import Derived.Deep.RegionHeld
import Derived.Test.YtbikcpchlgmoaaaRows
import Derived.Test.YtbikcpchlgmoaaaDiskOpen
import Derived.ProofKit
import Derived.OpenShut
import Derived.ShutString
import Derived.SizedLaws
set_option linter.unusedVariables false
namespace Go.Proofs.Ytbikcpchlgmoaaa.Frame
open Go.RowKit

theorem cell_lt {w : World} {a : Addr} {v : Value} (h : w.cell? a = some v) : a.block < w.heap.size := by
  rcases Nat.lt_or_ge a.block w.heap.size with h' | h'
  · exact h'
  · simp [World.cell?, Array.getElem?_eq_none h'] at h
def IsStrs (w : World) (a : Option Addr) (len cap : Nat) (zs : List (List UInt8)) : Prop :=
  HasStrs w (.slice a len cap) zs ∧ len = zs.length ∧ len ≤ cap ∧ cap ≤ 9223372036854775807 ∧ ∀ z ∈ zs, z.length ≤ 9223372036854775807
theorem isStrs_nil (w : World) : IsStrs w none 0 0 [] := ⟨⟨none, 0, rfl, fun j hj => by simp at hj⟩, rfl, Nat.le_refl _, by decide, by simp⟩
theorem isStrs_of {w : World} {a : Addr} {len cap : Nat} {Sx : Nat → ByteArray} (hl : len ≤ cap) (hm : cap ≤ maxLen) (h : ∀ i, i < len → w.cell? (a.add i) = some (.string (Sx i)) ∧ (Sx i).size ≤ maxLen) :
    IsStrs w (some a) len cap ((List.range len).map fun i => (Sx i).data.toList) := by
  unfold maxLen at hm
  refine ⟨⟨some a, cap, by simp, fun j hj => ?_⟩, by simp, hl, hm, fun z hz => ?_⟩
  · have hj' : j < len := by simpa using hj
    obtain ⟨b, off, spot⟩ := a
    have hspot : spot = none := by simpa [Addr.add] using World.cell?_spot (h 0 (by omega)).1
    subst hspot
    have h1 := (h j hj').1
    rw [addr_add] at h1
    refine ⟨b, off, rfl, ?_, cell_lt h1⟩
    rw [h1]
    simp [strV]
  · obtain ⟨i, hi, rfl⟩ := List.mem_map.1 hz
    have := (h i (by simpa using hi)).2
    unfold maxLen at this
    have e : (Sx i).data.toList.length = (Sx i).size := Array.length_toList
    omega

def catL (zs : List (List UInt8)) : List UInt8 := zs.flatMap frameL
theorem catL_cons (z : List UInt8) (zs : List (List UInt8)) : catL (z :: zs) = frameL z ++ catL zs := rfl
theorem catL_snoc (zs : List (List UInt8)) (z : List UInt8) : catL (zs ++ [z]) = catL zs ++ frameL z := by simp [catL]
theorem frameL_len (l : List UInt8) : (frameL l).length = (putL l.length).length + 4 + l.length := by
  rw [frameL, List.length_append, List.length_append, sumL_len]; omega
theorem frameL_le (l : List UInt8) (h : l.length ≤ 4096) : (frameL l).length ≤ 4102 := by
  rw [frameL_len]; have := putL_le l.length h; omega
theorem catL_le (zs : List (List UInt8)) (h : ∀ z ∈ zs, z.length ≤ 4096) : (catL zs).length ≤ 4102 * zs.length := by
  induction zs with
  | nil => simp [catL]
  | cons z zs ih =>
    have h1 := frameL_le z (h z (by simp))
    have h2 := ih (fun y hy => h y (by simp [hy]))
    rw [catL_cons, List.length_append, List.length_cons]
    omega
theorem take_cat (zs : List (List UInt8)) (more : List UInt8) (h : ∀ z ∈ zs, z.length ≤ 4096) : takeL zs.length (catL zs ++ more) = (zs, more, 0) := by
  induction zs with
  | nil => rfl
  | cons z zs ih =>
    have h2 := ih (fun y hy => h y (by simp [hy]))
    rw [catL_cons, List.append_assoc, List.length_cons, takeL, nextL_frame z (catL zs ++ more) (h z (by simp)), h2]
    simp
theorem all_cat (zs : List (List UInt8)) (h : ∀ z ∈ zs, z.length ≤ 4096) : allL (catL zs) = (zs, []) := by
  induction zs with
  | nil => rfl
  | cons z zs ih =>
    have h2 := ih (fun y hy => h y (by simp [hy]))
    rw [catL_cons, allL_ok (nextL_frame z (catL zs) (h z (by simp))), h2]

/-- few enough, and none too long -/
def Fit20 (zs : List (List UInt8)) : Prop := zs.length ≤ 20 ∧ ∀ z ∈ zs, z.length ≤ 4096
def FramesIs (zs : List (List UInt8)) (w : World) (e : Ending) (w' : World) : Prop :=
  ((Fit20 zs ∧ e = .returned (.tuple #[.string ⟨(catL zs).toArray⟩, .bool true])) ∨ (¬ Fit20 zs ∧ e = .returned (.tuple #[.string ⟨#[]⟩, .bool false]))) ∧ Below w.heap.size w w'
end Go.Proofs.Ytbikcpchlgmoaaa.Frame
namespace Go.Proofs.Ytbikcpchlgmoaaa.Frame

/-- what is read has the bytes that it was read from -/
theorem nextL_eq {l p r : List UInt8} (h : nextL l = (p, r, 0)) : l = frameL p ++ r ∧ p.length ≤ 4096 := by
  obtain ⟨c, hc, e, hg, hp⟩ := nextL_inv h
  obtain ⟨n, e1, e2, _, _⟩ := put_getGo l 0 0 _ _ (by omega) hg
  have hn : p.length = n := by simpa using e1
  subst hn
  exact ⟨by rw [← e2, frameL, List.append_assoc, List.append_assoc], hp⟩
theorem nextL_cut (z : List UInt8) (hz : z.length ≤ 4096) (k : Nat) (hk : k < (frameL z).length) : (nextL ((frameL z).take k)).2.2 ≠ 0 := by
  intro h
  obtain ⟨⟨p, r, y⟩, hn⟩ : ∃ g, nextL ((frameL z).take k) = g := ⟨_, rfl⟩
  rw [hn] at h
  simp only at h
  subst h
  obtain ⟨e, hp⟩ := nextL_eq hn
  have e2 : frameL z = frameL p ++ (r ++ (frameL z).drop k) := by
    rw [← List.append_assoc, ← e, List.take_append_drop]
  have h1 := nextL_frame z [] hz
  rw [List.append_nil, e2, nextL_frame p _ hp] at h1
  injection h1 with _ h1; injection h1 with h1 _
  have h2 : ((frameL z).drop k).length = 0 := by
    have := congrArg List.length h1
    simp only [List.length_append, List.length_nil] at this
    omega
  rw [List.length_drop] at h2
  omega

/-- how many frames are whole in the first k bytes -/
def cutN : List (List UInt8) → Nat → Nat
  | [], _ => 0
  | z :: zs, k => if (frameL z).length ≤ k then cutN zs (k - (frameL z).length) + 1 else 0
theorem cutN_le (zs : List (List UInt8)) : ∀ k, cutN zs k ≤ zs.length := by
  induction zs with
  | nil => intro k; simp [cutN]
  | cons z zs ih =>
    intro k
    rw [cutN, List.length_cons]
    split
    · have := ih (k - (frameL z).length); omega
    · omega
theorem cutN_size (zs : List (List UInt8)) : ∀ k, (catL (zs.take (cutN zs k))).length ≤ k := by
  induction zs with
  | nil => intro k; simp [catL]
  | cons z zs ih =>
    intro k
    rw [cutN]
    split
    · have := ih (k - (frameL z).length)
      rw [List.take_succ_cons, catL_cons, List.length_append]
      omega
    · simp [catL]
theorem cutN_iff (zs : List (List UInt8)) : ∀ k i, i < zs.length → (i < cutN zs k ↔ (catL (zs.take (i + 1))).length ≤ k) := by
  induction zs with
  | nil => intro k i hi; simp at hi
  | cons z zs ih =>
    intro k i hi
    rw [cutN, List.take_succ_cons, catL_cons, List.length_append]
    split
    · cases i with
      | zero => simp [catL]; omega
      | succ i =>
        have := ih (k - (frameL z).length) i (by simpa using hi)
        omega
    · constructor
      · intro h; omega
      · intro h; omega
theorem all_cut (zs : List (List UInt8)) (h : ∀ z ∈ zs, z.length ≤ 4096) : ∀ k, allL ((catL zs).take k) = (zs.take (cutN zs k), ((catL zs).take k).drop (catL (zs.take (cutN zs k))).length) := by
  induction zs with
  | nil => intro k; simp [catL, cutN]; rfl
  | cons z zs ih =>
    intro k
    have h2 := ih (fun y hy => h y (by simp [hy])) (k - (frameL z).length)
    have hz := h z (by simp)
    rw [cutN, catL_cons]
    split
    · rename_i hk
      rw [List.take_append, List.take_of_length_le hk, allL_ok (nextL_frame z _ hz), h2, List.take_succ_cons, catL_cons, List.length_append, List.drop_length_add_append]
    · rename_i hk
      rw [List.take_append_of_le_length (by omega)]
      obtain ⟨⟨p, r, y⟩, hn⟩ : ∃ g, nextL ((frameL z).take k) = g := ⟨_, rfl⟩
      have hy := nextL_cut z hz k (by omega)
      rw [hn] at hy
      rw [allL_bad hn hy]
      simp [catL]
theorem catL_step (zs : List (List UInt8)) (k : Nat) (h : k < zs.length) : (catL (zs.take (k + 1))).length = (catL (zs.take k)).length + ((putL zs[k].length).length + 4 + zs[k].length) := by
  rw [List.take_succ_eq_append_getElem h, catL_snoc, List.length_append, frameL_len]
end Go.Proofs.Ytbikcpchlgmoaaa.Frame
namespace Go.Proofs.Ytbikcpchlgmoaaa.Seg
open Go.RowKit Go.Shelf
open Go.Proofs.Ytbikcpchlgmoaaa.Disk (Dk HasDk VBox Fits Ok okB ok_of ok_mk checkE checkE_ok checkE_bad HasRow allH allH_len below2)

/-- how long a disk's segments are -/
def longE (d : Dk) : Nat × Int := if okB d = true then (if d.secs.length < 10 then (0, 1) else ((d.secs.length - 2) / 8, 0)) else (0, 2)
theorem longE_bad {d : Dk} (h : okB d = false) : longE d = (0, 2) := by rw [longE, if_neg (by rw [h]; decide)]
theorem longE_few {d : Dk} (h : okB d = true) (hl : d.secs.length < 10) : longE d = (0, 1) := by rw [longE, if_pos h, if_pos hl]
theorem longE_ok {d : Dk} (h : okB d = true) (hl : ¬ d.secs.length < 10) : longE d = ((d.secs.length - 2) / 8, 0) := by rw [longE, if_pos h, if_neg hl]
def LongIs (r : Nat × Int) (w : World) (e : Ending) (w' : World) : Prop := e = .returned (.tuple #[.int .i64 (r.1 : Int), .int .i64 r.2]) ∧ Below w.heap.size w w'
theorem longIs_of {r : Nat × Int} {w w' : World} {n : Nat} {a y : Int} (h : r = (n, y)) (ha : a = (n : Int)) (hb : Below w.heap.size w w') : LongIs r w (.returned (.tuple #[.int .i64 a, .int .i64 y])) w' := by
  subst h; subst ha; exact ⟨rfl, hb⟩
set_option maxHeartbeats 2000000 in
theorem long_any (d : Dk) (v : Value) (w : World) (h : HasDk w v d) (hf : Fits d) : Calls Try.prog 11 #[v] w (LongIs (longE d) w) := by
  have cck := fun W (hb : Below w.heap.size w W) => Disk.check_any d v W (h.keep hb) hf
  obtain ⟨so, sc, co, cc, rfl, hs, hc⟩ := h.parts
  obtain ⟨X, hX⟩ : ∃ X, X = w.alloc (.cells #[.slice so d.secs.length sc, .slice co d.cache.length cc, .int .i64 d.fuse, .bool d.off] 25) := ⟨_, rfl⟩
  have hB0 : Below w.heap.size w X := by rw [hX]; exact (Below.refl _ w).alloc (Nat.le_refl _) _
  have vb : VBox X w.heap.size (.slice so d.secs.length sc) (.slice co d.cache.length cc) (.int .i64 d.fuse) (.bool d.off) := by rw [hX]; exact World.alloc_heap_new _ _
  obtain ⟨q0, q1, q2, q3, qf⟩ := vb.cells
  have cck := cck X hB0
  clear h hs hc
  cases hok : okB d
  · rw [checkE_bad hok] at cck
    have HL := longE_bad hok
    have HLH : Hid (longE d = (0, 2)) := HL
    generalize longE d = R at HLH ⊢
    clear HL hok
    go_enter Try.func11, Try.ntmps11
    go_upto_region 1 with fail
    rw [← hX]
    clear hX
    go_wp2_with fail
    go_at_call 34; refine cck.mono ?_; rintro e w1 ⟨rfl, hb1⟩
    have hB1 := below2 hB0 hb1
    clear cck
    go_wp2
    go_ret2
    exact longIs_of HLH.out rfl hB1
  · rw [checkE_ok hok] at cck
    have hk := ok_of hok
    have h1 := hk.one
    have h2 := hk.many
    obtain ⟨n, hn⟩ : ∃ n, n = d.secs.length := ⟨_, rfl⟩
    have HLR : Hid (longE d = if n < 10 then (0, 1) else ((n - 2) / 8, 0)) := by show _ = _; rw [longE, if_pos hok, hn]
    rw [← hn] at h1 h2 vb q0 cck hX ⊢
    generalize longE d = R at HLR ⊢
    have hni : (n : Int) ≤ 1024 := by omega
    have hn1 : (1 : Int) ≤ (n : Int) := by omega
    have hq1 : ((n : Int) - 2).tdiv 8 = (((n - 2) / 8 : Nat) : Int) := by
      by_cases hn2 : n = 1
      · subst hn2; rfl
      · rw [Int.tdiv_eq_ediv_of_nonneg (by omega)]; omega
    obtain ⟨L, hL⟩ : ∃ L, L = (n - 2) / 8 := ⟨_, rfl⟩
    rw [← hL] at hq1
    have hLi : (L : Int) ≤ 127 := by omega
    have hw : IntKind.i64.wrap (L : Int) = (L : Int) := by rw [IntKind.wrap_i64]; omega
    have HLL : Hid (L = (n - 2) / 8) := hL
    clear hn hk hok hL
    by_cases h10 : n < 10
    · have hl1 : decide ((L : Int) < 1) = true := by rw [decide_eq_true_iff]; have := HLL.out; omega
      have hl2 : decide (L < 1) = true := by rw [decide_eq_true_iff]; have := HLL.out; omega
      have HR : Hid (R = (0, 1)) := by show _ = _; rw [HLR.out, if_pos h10]
      have HL0 : L = 0 := by have := HLL.out; omega
      clear HLR HLL
      go_enter Try.func11, Try.ntmps11
      go_upto_region 1 with fail
      rw [← hX]
      clear hX
      go_wp2_with fail
      go_at_call 34; refine cck.mono ?_; rintro e w1 ⟨rfl, hb1⟩
      have hB1 := below2 hB0 hb1
      clear cck q0 q1 q2 q3 qf
      obtain ⟨q0, q1, q2, q3, qf⟩ := (vb.below hb1).cells
      clear HL0
      go_wp2
      go_ret2
      exact longIs_of HR.out rfl hB1
    · have hl1 : decide ((L : Int) < 1) = false := by rw [decide_eq_false_iff_not]; have := HLL.out; omega
      have hl2 : decide (L < 1) = false := by rw [decide_eq_false_iff_not]; have := HLL.out; omega
      have HR : Hid (R = (L, 0)) := by show _ = _; rw [HLR.out, if_neg h10, HLL.out]
      clear HLR HLL
      go_enter Try.func11, Try.ntmps11
      go_upto_region 1 with fail
      rw [← hX]
      clear hX
      go_wp2_with fail
      go_at_call 34; refine cck.mono ?_; rintro e w1 ⟨rfl, hb1⟩
      have hB1 := below2 hB0 hb1
      clear cck q0 q1 q2 q3 qf
      obtain ⟨q0, q1, q2, q3, qf⟩ := (vb.below hb1).cells
      go_wp2
      go_ret2
      exact longIs_of HR.out rfl hB1
set_option maxHeartbeats 2000000 in
theorem rlong_any (d : Dk) (v : Value) (w : World) (h : HasDk w v d) (hf : Fits d) : Calls Try.prog 12 #[v] w (LongIs (longE d) w) := by
  have cck := fun W (hb : Below w.heap.size w W) => Disk.rcheck_any d v W (h.keep hb) hf
  obtain ⟨so, sc, co, cc, rfl, hs, hc⟩ := h.parts
  obtain ⟨X, hX⟩ : ∃ X, X = w.alloc (.cells #[.slice so d.secs.length sc, .slice co d.cache.length cc, .int .i64 d.fuse, .bool d.off] 25) := ⟨_, rfl⟩
  have hB0 : Below w.heap.size w X := by rw [hX]; exact (Below.refl _ w).alloc (Nat.le_refl _) _
  have vb : VBox X w.heap.size (.slice so d.secs.length sc) (.slice co d.cache.length cc) (.int .i64 d.fuse) (.bool d.off) := by rw [hX]; exact World.alloc_heap_new _ _
  obtain ⟨q0, q1, q2, q3, qf⟩ := vb.cells
  have cck := cck X hB0
  clear h hs hc
  cases hok : okB d
  · rw [checkE_bad hok] at cck
    have HLH : Hid (longE d = (0, 2)) := longE_bad hok
    generalize longE d = R at HLH ⊢
    clear hok
    go_enter Try.func12, Try.ntmps12
    go_upto_region 1 with fail
    rw [← hX]
    clear hX
    go_wp2_with fail
    go_at_call 35; refine cck.mono ?_; rintro e w1 ⟨rfl, hb1⟩
    have hB1 := below2 hB0 hb1
    clear cck
    go_wp2
    go_ret2
    exact longIs_of HLH.out rfl hB1
  · rw [checkE_ok hok] at cck
    have hk := ok_of hok
    have h1 := hk.one
    have h2 := hk.many
    obtain ⟨n, hn⟩ : ∃ n, n = d.secs.length := ⟨_, rfl⟩
    have HLR : Hid (longE d = if n < 10 then (0, 1) else ((n - 2) / 8, 0)) := by show _ = _; rw [longE, if_pos hok, hn]
    rw [← hn] at h1 h2 vb q0 cck hX ⊢
    generalize longE d = R at HLR ⊢
    have hni : (n : Int) ≤ 1024 := by omega
    have hn1 : (1 : Int) ≤ (n : Int) := by omega
    clear hn hk hok
    by_cases h10 : n < 10
    · have hl1 : decide ((n : Int) < 10) = true := by rw [decide_eq_true_iff]; omega
      have hl2 : decide (n < 10) = true := by rw [decide_eq_true_iff]; omega
      have HR : Hid (R = (0, 1)) := by show _ = _; rw [HLR.out, if_pos h10]
      clear HLR
      go_enter Try.func12, Try.ntmps12
      go_upto_region 1 with fail
      rw [← hX]
      clear hX
      go_wp2_with fail
      go_at_call 35; refine cck.mono ?_; rintro e w1 ⟨rfl, hb1⟩
      have hB1 := below2 hB0 hb1
      clear cck q0 q1 q2 q3 qf
      obtain ⟨q0, q1, q2, q3, qf⟩ := (vb.below hb1).cells
      go_wp2
      go_ret2
      exact longIs_of HR.out rfl hB1
    · have hl1 : decide ((n : Int) < 10) = false := by rw [decide_eq_false_iff_not]; omega
      have hl2 : decide (n < 10) = false := by rw [decide_eq_false_iff_not]; omega
      have HR : Hid (R = ((n - 2) / 8, 0)) := by show _ = _; rw [HLR.out, if_neg h10]
      have HN : Hid (10 ≤ n) := by show _ ≤ _; omega
      have hn10 : (10 : Int) ≤ (n : Int) := by omega
      clear HLR h10
      go_enter Try.func12, Try.ntmps12
      go_upto_region 1 with fail
      rw [← hX]
      clear hX
      go_wp2_with fail
      go_at_call 35; refine cck.mono ?_; rintro e w1 ⟨rfl, hb1⟩
      have hB1 := below2 hB0 hb1
      clear cck q0 q1 q2 q3 qf
      obtain ⟨q0, q1, q2, q3, qf⟩ := (vb.below hb1).cells
      go_wp2
      go_ret2
      exact longIs_of HR.out (by have := HN.out; omega) hB1
def segB (s : Int) : Bool := decide (0 ≤ s ∧ s < 8)
theorem isSeg_any (s : Int) (w : World) (hs : -9223372036854775808 ≤ s ∧ s ≤ 9223372036854775807) : Calls Try.prog 57 #[.int .i64 s] w fun e w' => e = .returned (.bool (segB s)) ∧ w' = w := by
  have HB : Hid (segB s = decide (0 ≤ s ∧ s < 8)) := rfl
  generalize segB s = B at HB ⊢
  by_cases h0 : 0 ≤ s
  · have d0 : decide (0 ≤ s) = true := by rw [decide_eq_true_iff]; exact h0
    by_cases h8 : s < 8
    · have d8 : decide (s < 8) = true := by rw [decide_eq_true_iff]; exact h8
      have HV : Hid (B = true) := by show _ = _; rw [HB.out]; exact decide_eq_true ⟨h0, h8⟩
      clear HB
      go_enter Try.func57, Try.ntmps57
      go_wp2
      go_ret
      exact ⟨by rw [HV.out]; rfl, rfl⟩
    · have d8 : decide (s < 8) = false := by rw [decide_eq_false_iff_not]; exact h8
      have HV : Hid (B = false) := by show _ = _; rw [HB.out]; exact decide_eq_false (fun hc => h8 hc.2)
      clear HB
      go_enter Try.func57, Try.ntmps57
      go_wp2
      go_ret
      exact ⟨by rw [HV.out]; rfl, rfl⟩
  · have d0 : decide (0 ≤ s) = false := by rw [decide_eq_false_iff_not]; exact h0
    have HV : Hid (B = false) := by show _ = _; rw [HB.out]; exact decide_eq_false (fun hc => h0 hc.1)
    clear HB
    go_enter Try.func57, Try.ntmps57
    go_wp2
    go_ret
    exact ⟨by rw [HV.out]; rfl, rfl⟩
theorem place_any (L s : Nat) (w : World) (hL : L ≤ 127) (hs : s < 8) : Calls Try.prog 30 #[.int .i64 (L : Int), .int .i64 (s : Int)] w fun e w' => e = .returned (.int .i64 ((2 + s * L : Nat) : Int)) ∧ w' = w := by
  have hm : s * L ≤ 7 * 127 := Nat.mul_le_mul (by omega) hL
  obtain ⟨p, hp⟩ : ∃ p, p = s * L := ⟨_, rfl⟩
  have hpi : (s : Int) * (L : Int) = (p : Int) := by rw [hp]; simp
  have hpl : (p : Int) ≤ 889 := by omega
  have hw : IntKind.i64.wrap (p : Int) = (p : Int) := by rw [IntKind.wrap_i64]; omega
  rw [← hp]
  clear hp hm
  go_enter Try.func30, Try.ntmps30
  go_wp2
  go_ret
  exact ⟨by rw [show ((2 + p : Nat) : Int) = 2 + (p : Int) by omega]; rfl, rfl⟩
def pagesN (b : Nat) : Nat := (b + 110) / 111
theorem pagesOf_any (b : Nat) (w : World) (hb : b ≤ 1000000) : Calls Try.prog 37 #[.int .i64 (b : Int)] w fun e w' => e = .returned (.int .i64 (pagesN b : Int)) ∧ w' = w := by
  have hbi : (b : Int) ≤ 1000000 := by omega
  have HP : Hid (((pagesN b : Nat) : Int) = ((b : Int) + 111 - 1) / 111) := by show _ = _; unfold pagesN; omega
  generalize pagesN b = R at HP ⊢
  go_enter Try.func37, Try.ntmps37
  go_wp2
  go_ret
  exact ⟨by rw [HP.out]; rfl, rfl⟩
end Go.Proofs.Ytbikcpchlgmoaaa.Seg
namespace Go.Proofs.Ytbikcpchlgmoaaa.Seg
open Go.RowKit Go.Shelf
open Go.Proofs.Ytbikcpchlgmoaaa.Frame (catL catL_snoc catL_step catL_le frameL frameL_len frameL_le size_ok size_bad strV putL_le below2 size_list)

/-- records that may be written at once -/
def okR (zs : List (List UInt8)) : Bool := zs.all (fun z => decide (z.length ≤ 4096)) && decide ((catL zs).length ≤ 14208)
def needE (zs : List (List UInt8)) : Nat × Int := if okR zs = true then (pagesN (catL zs).length, 0) else (0, 11)
theorem okR_mk {zs : List (List UInt8)} (h1 : ∀ z ∈ zs, z.length ≤ 4096) (h2 : (catL zs).length ≤ 14208) : okR zs = true := by
  unfold okR
  rw [Bool.and_eq_true, List.all_eq_true]
  exact ⟨fun z hz => decide_eq_true (h1 z hz), decide_eq_true h2⟩
theorem okR_inv {zs : List (List UInt8)} (h : okR zs = true) : (∀ z ∈ zs, z.length ≤ 4096) ∧ (catL zs).length ≤ 14208 := by
  unfold okR at h
  rw [Bool.and_eq_true, List.all_eq_true] at h
  exact ⟨fun z hz => of_decide_eq_true (h.1 z hz), of_decide_eq_true h.2⟩
theorem catL_mono (zs : List (List UInt8)) (k : Nat) : (catL (zs.take k)).length ≤ (catL zs).length := by
  have : catL zs = catL (zs.take k) ++ catL (zs.drop k) := by
    unfold catL; rw [← List.flatMap_append, List.take_append_drop]
  rw [this, List.length_append]; omega
theorem need_bad1 {zs : List (List UInt8)} {k : Nat} (hk : k < zs.length) (h : ¬ zs[k].length ≤ 4096) : needE zs = (0, 11) := by
  unfold needE
  rw [if_neg (fun hc => h ((okR_inv hc).1 _ (List.getElem_mem hk)))]
theorem need_bad2 {zs : List (List UInt8)} {k : Nat} (h : ¬ (catL (zs.take k)).length ≤ 14208) : needE zs = (0, 11) := by
  unfold needE
  rw [if_neg (fun hc => by have := (okR_inv hc).2; have := catL_mono zs k; omega)]
set_option maxHeartbeats 2000000 in
set_option maxRecDepth 20000 in
theorem need_any (zs : List (List UInt8)) (v : Value) (w : World) (h : Frame.HasStrs w v zs) (hn9 : zs.length ≤ 9223372036854775807) (hz9 : ∀ z ∈ zs, z.length ≤ 9223372036854775807) :
    Calls Try.prog 13 #[v] w (LongIs (needE zs) w) := by
  obtain ⟨o, cap, rfl, g⟩ := h
  obtain ⟨n, hn⟩ : ∃ n, n = zs.length := ⟨_, rfl⟩
  have HN : Hid (n = zs.length) := hn
  have HG : Hid (∀ j (hj : j < zs.length), ∃ b i, o = some ⟨b, i, none⟩ ∧ w.cell? ⟨b, i + j, none⟩ = some (strV zs[j]) ∧ b < w.heap.size) := g
  have HZ : Hid (∀ z ∈ zs, z.length ≤ 9223372036854775807) := hz9
  have hni : (n : Int) ≤ 9223372036854775807 := by omega
  rw [← hn]
  clear hn g hz9 hn9
  have HB1 : Hid (∀ k (hk : k < zs.length), ¬ zs[k].length ≤ 4096 → needE zs = (0, 11)) := fun k hk h => need_bad1 hk h
  have HB2 : Hid (∀ k, ¬ (catL (zs.take k)).length ≤ 14208 → needE zs = (0, 11)) := fun k h => need_bad2 h
  have HB3 : Hid ((∀ z ∈ zs, z.length ≤ 4096) → (catL zs).length ≤ 14208 → needE zs = (pagesN (catL zs).length, 0)) := fun h1 h2 => by unfold needE; rw [if_pos (okR_mk h1 h2)]
  generalize needE zs = R at HB1 HB2 HB3 ⊢
  go_enter Try.func13, Try.ntmps13
  go_wp2_with fail
  go_loopw [4, 11] (fun s i wr => ∃ (k b : Nat), k ≤ n ∧ i = .int .i64 k ∧ s = .int .i64 (b : Int) ∧ Hid (b ≤ 14208) ∧ Hid (b = (catL (zs.take k)).length ∧ ∀ z ∈ zs.take k, z.length ≤ 4096) ∧ Below w.heap.size w wr) (fun _ i _ => n - (intOf i).toNat)
  case atStart => exact ⟨0, 0, by omega, rfl, rfl, (by show 0 ≤ 14208; omega), ⟨by simp [catL], by simp⟩, Below.refl _ _⟩
  case round =>
    obtain ⟨k, b, hk, rfl, rfl, hb9, HB, hB⟩ := hrel
    have hbi : (b : Int) ≤ 14208 := by have := hb9.out; omega
    by_cases hlt : k < n
    · have hkz : k < zs.length := by rw [← HN.out]; exact hlt
      obtain ⟨bb, i, rfl, hcell, hbs⟩ := HG.out k hkz
      have hc2 := (hB.cell (p := ⟨bb, i + k, none⟩) hbs).trans hcell
      have hz9 := HZ.out zs[k] (List.getElem_mem hkz)
      have hst := catL_step zs k hkz
      have HM : Hid (zs[k].length ≤ 4096 → ∀ z ∈ zs.take (k + 1), z.length ≤ 4096) := fun hh z hz => by
        rw [List.take_succ_eq_append_getElem hkz, List.mem_append, List.mem_singleton] at hz
        rcases hz with hz | rfl
        · exact HB.out.2 z hz
        · exact hh
      have HX1 : Hid (¬ zs[k].length ≤ 4096 → R = (0, 11)) := HB1.out k hkz
      have HX2 : Hid (¬ (catL (zs.take (k + 1))).length ≤ 14208 → R = (0, 11)) := HB2.out (k + 1)
      unfold strV at hc2
      have hzs : (⟨(zs[k]).toArray⟩ : ByteArray).size = zs[k].length := size_list _
      generalize zs[k] = z at hc2 hz9 hst HM HX1 hzs
      have hki : (k : Int) < (n : Int) := by omega
      clear hcell
      by_cases h4 : z.length ≤ 4096
      · have cs := fun W => size_ok z.length W h4
        have hpl := putL_le z.length h4
        obtain ⟨sz, hsz⟩ : ∃ sz, sz = (putL z.length).length + 4 + z.length := ⟨_, rfl⟩
        rw [← hsz] at cs hst
        have hsz9 : (sz : Int) ≤ 4102 := by omega
        obtain ⟨Zb, hZb⟩ : ∃ X : ByteArray, X = ⟨z.toArray⟩ := ⟨_, rfl⟩
        rw [← hZb] at hc2 hzs
        rw [← hzs] at cs
        have hZi : (Zb.size : Int) ≤ 4096 := by omega
        obtain ⟨b2, hb2⟩ : ∃ b2, b2 = b + sz := ⟨_, rfl⟩
        have HB2' : Hid (b2 = (catL (zs.take (k + 1))).length) := by show _ = _; rw [hb2, hst, HB.out.1]
        have hbb : (b : Int) + (sz : Int) = (b2 : Int) := by omega
        have hb2i : (b2 : Int) ≤ 18310 := by omega
        have hw : IntKind.i64.wrap (b2 : Int) = (b2 : Int) := by rw [IntKind.wrap_i64]; omega
        clear hst hsz hpl hZb hzs hb2
        by_cases hbig : b2 ≤ 14208
        · have d1 : decide ((14208 : Int) < (b2 : Int)) = false := by rw [decide_eq_false_iff_not]; omega
          have HBG : Hid (b2 ≤ 14208) := hbig
          clear hbig
          have HM2 : Hid (∀ z ∈ zs.take (k + 1), z.length ≤ 4096) := HM.out h4
          clear HM HX1 HX2
          go_wp2_with fail
          go_at_call 36; refine (cs _).mono ?_; rintro e w2 ⟨rfl, hb2'⟩
          have hB2 := below2 hB hb2'
          clear cs hc2
          go_wp2_with fail
          go_roundw
          case rel => exact ⟨k + 1, b2, by omega, by go_num, rfl, HBG, ⟨HB2'.out, HM2.out⟩, hB2⟩
          case measure => simp [intOf]; omega
        · have d1 : decide ((14208 : Int) < (b2 : Int)) = true := by rw [decide_eq_true_iff]; omega
          have HR : Hid (R = (0, 11)) := HX2.out (by rw [← HB2'.out]; exact hbig)
          clear hbig
          clear HM HX1 HX2
          go_wp2_with fail
          go_at_call 36; refine (cs _).mono ?_; rintro e w2 ⟨rfl, hb2'⟩
          have hB2 := below2 hB hb2'
          clear cs hc2
          go_wp2
          go_ret2
          exact longIs_of HR.out rfl hB2
      · have HR : Hid (R = (0, 11)) := HX1.out h4
        obtain ⟨Zb, hZb⟩ : ∃ X : ByteArray, X = ⟨z.toArray⟩ := ⟨_, rfl⟩
        rw [← hZb] at hc2 hzs
        have cs := fun W => size_bad (Zb.size : Int) W (.inr (by omega)) (by omega)
        have hZi : (Zb.size : Int) ≤ 9223372036854775807 := by omega
        clear HM HX1 HX2 hst hZb hzs
        go_wp2_with fail
        go_at_call 36; refine (cs _).mono ?_; rintro e w2 ⟨rfl, hb2'⟩
        have hB2 := below2 hB hb2'
        clear cs hc2
        go_wp2
        go_ret2
        exact longIs_of HR.out rfl hB2
    · obtain rfl : k = n := by omega
      have HR : Hid (R = (pagesN b, 0)) := by
        have h1 := HB.out
        rw [HN.out, List.take_length] at h1
        show _ = _
        rw [HB3.out h1.2 (by rw [← h1.1]; exact hb9.out), ← h1.1]
      have cpg := fun W => pagesOf_any b W (by have := hb9.out; omega)
      clear HB1 HB2 HB3 HB
      go_wp2_with fail
      go_at_call 37; refine (cpg _).mono ?_; rintro e w2 ⟨rfl, rfl⟩
      go_wp2
      go_ret2
      exact longIs_of HR.out rfl hB
end Go.Proofs.Ytbikcpchlgmoaaa.Seg
namespace Go.Proofs.Ytbikcpchlgmoaaa.Seg
open Go.RowKit Go.Shelf
open Go.Proofs.Ytbikcpchlgmoaaa.Frame (catL catL_snoc frameL frameL_le put_ok below2 size_list str_app slice_lh)
open Go.Proofs.Ytbikcpchlgmoaaa.Page (strCells_eq byteCells_app isb_new pageL putL_ok pieceL pieceL_len cntL StrIs pagesL pagesL_len pagesL_snoc append_str own_keep below_row extract_piece)
attribute [-go_sem] Builtin.append_

/-- why records can't be written there -/
def mayE (L : Nat) (s : Int) (t : Nat) (at' : Int) (zs : List (List UInt8)) : Int :=
  if segB s = true ∧ 1 ≤ t ∧ t ≤ 4611686018427387904 ∧ 0 ≤ at' ∧ at' ≤ (L : Int) then (if (needE zs).2 = 0 then (if (L : Int) < at' + ((needE zs).1 : Int) then 8 else 0) else (needE zs).2) else 1
theorem need_le (zs : List (List UInt8)) : (needE zs).1 ≤ 128 := by
  unfold needE
  split
  · rename_i h
    have := (okR_inv h).2
    show pagesN (catL zs).length ≤ 128
    unfold pagesN; omega
  · show 0 ≤ 128; omega
theorem ret_errno {a b : Int} (h : a = b) : Ending.returned (.int .i64 a) = .returned (.int .i64 b) := by rw [h]
set_option maxHeartbeats 2000000 in
set_option maxRecDepth 20000 in
theorem may_any (L : Nat) (s : Int) (t : Nat) (at' : Int) (zs : List (List UInt8)) (v : Value) (w : World) (h : Frame.HasStrs w v zs) (hn9 : zs.length ≤ 9223372036854775807) (hz9 : ∀ z ∈ zs, z.length ≤ 9223372036854775807) (hL : L ≤ 127)
    (hs9 : -9223372036854775808 ≤ s ∧ s ≤ 9223372036854775807) (ht : t < 18446744073709551616) (ha : -9223372036854775808 ≤ at' ∧ at' ≤ 9223372036854775807) :
    Calls Try.prog 27 #[.int .i64 (L : Int), .int .i64 s, .int .u64 (t : Int), .int .i64 at', v] w fun e w' => e = .returned (.int .i64 (mayE L s t at' zs)) ∧ Below w.heap.size w w' := by
  have cne := need_any zs v w h hn9 hz9
  unfold LongIs at cne
  have cis := fun W => isSeg_any s W hs9
  obtain ⟨o, cap, rfl, _⟩ := h
  have hLi : (L : Int) ≤ 127 := by omega
  have hti : (t : Int) ≤ 18446744073709551615 := by omega
  have HR : Hid (mayE L s t at' zs = if segB s = true ∧ 1 ≤ t ∧ t ≤ 4611686018427387904 ∧ 0 ≤ at' ∧ at' ≤ (L : Int) then (if (needE zs).2 = 0 then (if (L : Int) < at' + ((needE zs).1 : Int) then 8 else 0) else (needE zs).2) else 1) := rfl
  generalize mayE L s t at' zs = R at HR ⊢
  have hnl := need_le zs
  generalize needE zs = ne at cne HR hnl
  obtain ⟨pn, y⟩ := ne
  simp only at cne HR hnl
  have hpi : (pn : Int) ≤ 128 := by omega
  clear hn9 hz9 ht
  have hcase : segB s = false ∨ (segB s = true ∧ decide ((t : Int) < 1) = true) ∨ (segB s = true ∧ decide ((t : Int) < 1) = false ∧ decide (4611686018427387904 < (t : Int)) = true) ∨ (segB s = true ∧ decide ((t : Int) < 1) = false ∧ decide (4611686018427387904 < (t : Int)) = false ∧ decide (at' < 0) = true) ∨
      (segB s = true ∧ decide ((t : Int) < 1) = false ∧ decide (4611686018427387904 < (t : Int)) = false ∧ decide (at' < 0) = false ∧ decide ((L : Int) < at') = true) ∨ (segB s = true ∧ decide ((t : Int) < 1) = false ∧ decide (4611686018427387904 < (t : Int)) = false ∧ decide (at' < 0) = false ∧ decide ((L : Int) < at') = false) := by
    cases segB s
    · exact .inl rfl
    · simp only [decide_eq_true_eq, decide_eq_false_iff_not, true_and]
      omega
  rcases hcase with d1 | ⟨d1, d2⟩ | ⟨d1, d2, d3⟩ | ⟨d1, d2, d3, d4⟩ | ⟨d1, d2, d3, d4, d5⟩ | ⟨d1, d2, d3, d4, d5⟩
  · have HR1 : Hid (R = 1) := by show _ = _; rw [HR.out, if_neg (fun hc => by rw [d1] at hc; exact absurd hc.1 (by decide))]
    rw [d1] at cis
    clear HR cne
    go_enter Try.func27, Try.ntmps27
    go_wp2_with fail
    go_at_call 57; refine (cis _).mono ?_; rintro e w1 ⟨rfl, rfl⟩
    go_wp2
    go_ret
    exact ⟨ret_errno HR1.out.symm, Below.refl _ _⟩
  · have HR1 : Hid (R = 1) := by show _ = _; simp only [decide_eq_true_eq] at d2; rw [HR.out, if_neg (fun hc => by omega)]
    rw [d1] at cis
    clear HR cne
    go_enter Try.func27, Try.ntmps27
    go_wp2_with fail
    go_at_call 57; refine (cis _).mono ?_; rintro e w1 ⟨rfl, rfl⟩
    go_wp2
    go_ret
    exact ⟨ret_errno HR1.out.symm, Below.refl _ _⟩
  · have HR1 : Hid (R = 1) := by show _ = _; simp only [decide_eq_true_eq] at d3; rw [HR.out, if_neg (fun hc => by omega)]
    rw [d1] at cis
    clear HR cne
    go_enter Try.func27, Try.ntmps27
    go_wp2_with fail
    go_at_call 57; refine (cis _).mono ?_; rintro e w1 ⟨rfl, rfl⟩
    go_wp2
    go_ret
    exact ⟨ret_errno HR1.out.symm, Below.refl _ _⟩
  · have HR1 : Hid (R = 1) := by show _ = _; simp only [decide_eq_true_eq] at d4; rw [HR.out, if_neg (fun hc => by omega)]
    rw [d1] at cis
    clear HR cne
    go_enter Try.func27, Try.ntmps27
    go_wp2_with fail
    go_at_call 57; refine (cis _).mono ?_; rintro e w1 ⟨rfl, rfl⟩
    go_wp2
    go_ret
    exact ⟨ret_errno HR1.out.symm, Below.refl _ _⟩
  · have HR1 : Hid (R = 1) := by show _ = _; simp only [decide_eq_true_eq] at d5; rw [HR.out, if_neg (fun hc => by omega)]
    rw [d1] at cis
    clear HR cne
    go_enter Try.func27, Try.ntmps27
    go_wp2_with fail
    go_at_call 57; refine (cis _).mono ?_; rintro e w1 ⟨rfl, rfl⟩
    go_wp2
    go_ret
    exact ⟨ret_errno HR1.out.symm, Below.refl _ _⟩
  · have HR1 : Hid (R = if y = 0 then (if (L : Int) < at' + (pn : Int) then 8 else 0) else y) := by
      show _ = _
      simp only [decide_eq_false_iff_not] at d2 d3 d4 d5
      rw [HR.out, if_pos ⟨d1, by omega, by omega, by omega, by omega⟩]
    rw [d1] at cis
    obtain ⟨a, rfl⟩ := Int.eq_ofNat_of_zero_le (show 0 ≤ at' by simp only [decide_eq_false_iff_not] at d4; omega)
    have hai : (a : Int) ≤ 127 := by simp only [decide_eq_false_iff_not] at d5; omega
    have d6 : decide (L < a) = false := by rw [decide_eq_false_iff_not]; simp only [decide_eq_false_iff_not] at d5; omega
    have hw : IntKind.i64.wrap ((a : Int) + (pn : Int)) = (a : Int) + (pn : Int) := by rw [IntKind.wrap_i64]; omega
    clear HR
    by_cases hy : y = 0
    · subst hy
      rw [if_pos rfl] at HR1
      by_cases hfull : (L : Int) < (a : Int) + (pn : Int)
      · have e1 : decide ((L : Int) < (a : Int) + (pn : Int)) = true := by rw [decide_eq_true_iff]; exact hfull
        have e2 : decide (L < a + pn) = true := by rw [decide_eq_true_iff]; omega
        have HR2 : Hid (R = 8) := by show _ = _; rw [HR1.out, if_pos hfull]
        clear HR1
        go_enter Try.func27, Try.ntmps27
        go_wp2_with fail
        go_at_call 57; refine (cis _).mono ?_; rintro e w1 ⟨rfl, rfl⟩
        go_wp2_with fail
        go_at_call 13; refine cne.mono ?_; rintro e w2 ⟨rfl, hb2⟩
        go_wp2
        go_ret
        exact ⟨ret_errno HR2.out.symm, hb2⟩
      · have e1 : decide ((L : Int) < (a : Int) + (pn : Int)) = false := by rw [decide_eq_false_iff_not]; exact hfull
        have e2 : decide (L < a + pn) = false := by rw [decide_eq_false_iff_not]; omega
        have HR2 : Hid (R = 0) := by show _ = _; rw [HR1.out, if_neg hfull]
        clear HR1
        go_enter Try.func27, Try.ntmps27
        go_wp2_with fail
        go_at_call 57; refine (cis _).mono ?_; rintro e w1 ⟨rfl, rfl⟩
        go_wp2_with fail
        go_at_call 13; refine cne.mono ?_; rintro e w2 ⟨rfl, hb2⟩
        go_wp2
        go_ret
        exact ⟨ret_errno HR2.out.symm, hb2⟩
    · have hy2 : (y != 0) = true := by simpa using hy
      have HR2 : Hid (R = y) := by show _ = _; rw [HR1.out, if_neg hy]
      clear HR1
      go_enter Try.func27, Try.ntmps27
      go_wp2_with fail
      go_at_call 57; refine (cis _).mono ?_; rintro e w1 ⟨rfl, rfl⟩
      go_wp2_with fail
      go_at_call 13; refine cne.mono ?_; rintro e w2 ⟨rfl, hb2⟩
      go_wp2
      go_ret
      exact ⟨ret_errno HR2.out.symm, hb2⟩
set_option maxHeartbeats 2000000 in
theorem framed_any (zs : List (List UInt8)) (v : Value) (w : World) (h : Frame.HasStrs w v zs) (hok : okR zs = true) :
    Calls Try.prog 58 #[v] w fun e w' => e = .returned (.string ⟨(catL zs).toArray⟩) ∧ Below w.heap.size w w' := by
  obtain ⟨o, cap, rfl, g⟩ := h
  obtain ⟨h4, h14⟩ := okR_inv hok
  obtain ⟨n, hn⟩ : ∃ n, n = zs.length := ⟨_, rfl⟩
  have HN : Hid (n = zs.length) := hn
  have HG : Hid (∀ j (hj : j < zs.length), ∃ b i, o = some ⟨b, i, none⟩ ∧ w.cell? ⟨b, i + j, none⟩ = some (Frame.strV zs[j]) ∧ b < w.heap.size) := g
  have HZ : Hid ((∀ z ∈ zs, z.length ≤ 4096) ∧ (catL zs).length ≤ 14208) := ⟨h4, h14⟩
  have hnl : n ≤ 14208 := by
    have : ∀ ys : List (List UInt8), ys.length ≤ (catL ys).length := fun ys => by
      induction ys with
      | nil => simp
      | cons y ys ih => rw [Frame.catL_cons, List.length_append, Frame.frameL_len, List.length_cons]; omega
    have := this zs
    omega
  have hni : (n : Int) ≤ 14208 := by omega
  rw [← hn]
  clear hn g h4 h14 hnl hok
  go_enter Try.func58, Try.ntmps58
  go_wp2_with fail
  go_loopw [10] (fun i wr => ∃ (k : Nat) (acc : List UInt8), k ≤ n ∧ i = .int .i64 k ∧ Hid (Lib.IsBuilder 110 5 w.heap.size w.heap.size (Lib.byteCells acc) wr) ∧ Below w.heap.size w wr ∧ Hid (acc = catL (zs.take k))) (fun i _ => n - (intOf i).toNat)
  case atStart => exact ⟨0, [], by omega, rfl, (isb_new w : Lib.IsBuilder _ _ _ _ _ _), (Below.refl _ w).alloc (Nat.le_refl _) _, by show _ = _; simp [catL]⟩
  case round =>
    obtain ⟨k, acc, hk, rfl, HI, hW, HJ⟩ := hrel
    have hsz := hW.size
    by_cases hlt : k < n
    · have hkz : k < zs.length := by rw [← HN.out]; exact hlt
      obtain ⟨b, i, rfl, q1, l1⟩ := HG.out k hkz
      have r1 := (hW.cell (p := ⟨b, i + k, none⟩) l1).trans q1
      have hzk := HZ.out.1 _ (List.getElem_mem hkz)
      have HJ2 : Hid (acc ++ frameL zs[k] = catL (zs.take (k + 1))) := by show _ = _; rw [HJ.out, List.take_succ_eq_append_getElem hkz, catL_snoc]
      have hL : (acc ++ frameL zs[k]).length ≤ 14208 := by rw [HJ2.out]; have := catL_mono zs (k + 1); have := HZ.out.2; omega
      generalize zs[k] = z at r1 hzk HJ2 hL
      unfold Frame.strV at r1
      have cp := fun W => put_ok z W hzk
      rw [List.length_append] at hL
      generalize frameL z = fr at cp HJ2 hL
      generalize (⟨z.toArray⟩ : ByteArray) = Zb at r1 cp
      have HL : Hid (acc.length + fr.length ≤ 14208) := hL
      clear q1 hL
      go_wp2_with fail
      go_at_call 82; refine (cp _).mono ?_; rintro e w3 ⟨rfl, hb3⟩
      go_wp2_with fail
      have hI3 := isb_below HI.out hb3
      have hs3 := hb3.size
      go_at_call 83
      refine (writeString_any w.heap.size w.heap.size _ ⟨fr.toArray⟩ w3 hI3 (by rw [Lib.byteCells_length]; show _ + fr.toArray.size ≤ _; have := HL.out; simp; omega) (by omega)).mono ?_
      rintro e w4 ⟨rfl, hI4, hb4⟩
      rw [strCells_eq, byteCells_app] at hI4
      have HI4 : Hid (Lib.IsBuilder 110 5 w.heap.size w.heap.size (Lib.byteCells (acc ++ fr)) w4) := hI4
      clear hI3 hI4
      go_wp2
      go_roundw
      case rel => exact ⟨k + 1, acc ++ fr, by omega, by go_num, HI4, (hW.trans (hb3.mono hsz)).trans hb4, HJ2⟩
      case measure => simp [intOf]; omega
    · obtain rfl : k = n := by omega
      have HF : Hid (acc = catL zs) := by show _ = _; rw [HJ.out, HN.out, List.take_length]
      go_wp2_with fail
      go_at_call 84
      refine (Try.Builder_String_any w.heap.size w.heap.size _ wr HI.out hsz).mono ?_
      rintro e w5 ⟨rfl, hb5⟩
      go_wp2
      go_ret
      exact ⟨by rw [← HF.out]; rfl, hW.trans hb5⟩
end Go.Proofs.Ytbikcpchlgmoaaa.Seg
namespace Go.Proofs.Ytbikcpchlgmoaaa.Seg
open Go.RowKit Go.Shelf
open Go.Proofs.Ytbikcpchlgmoaaa.Frame (catL below2 size_list slice_lh)
open Go.Proofs.Ytbikcpchlgmoaaa.Page (pageL putL_ok pieceL pieceL_len cntL StrIs pagesL pagesL_len append_str own_keep below_row extract_piece)
attribute [-go_sem] Builtin.append_

/-- the pages of records, the first one's tag being T -/
def pagesR (T : Nat) (zs : List (List UInt8)) : List (List UInt8) := pagesL (catL zs) T (List.range (cntL (catL zs)))
theorem pagesR_len (T : Nat) (zs : List (List UInt8)) : (pagesR T zs).length = cntL (catL zs) := by unfold pagesR; rw [pagesL_len, List.length_range]
theorem pagesR_at (T : Nat) (zs : List (List UInt8)) (k : Nat) (h : k < (pagesR T zs).length) : (pagesR T zs)[k] = pageL (T + k) (pieceL (catL zs) k) := by simp [pagesR, pagesL]
theorem pagesR_succ (T : Nat) (zs : List (List UInt8)) (k : Nat) (h : k < cntL (catL zs)) : (pagesR T zs).take (k + 1) = (pagesR T zs).take k ++ [pageL (T + k) (pieceL (catL zs) k)] := by
  rw [List.take_succ_eq_append_getElem (by rw [pagesR_len]; exact h), pagesR_at]
def RowIs1 (r : List (List UInt8)) (w : World) (e : Ending) (w' : World) : Prop := ∃ v, e = .returned v ∧ w'.ownsRow w.heap.size 9 1 v r.length (r.map Page.strV) ∧ Below w.heap.size w w'
set_option maxHeartbeats 2000000 in
set_option maxRecDepth 20000 in
theorem batch_any (T : Nat) (zs : List (List UInt8)) (v : Value) (w : World) (h : Frame.HasStrs w v zs) (hok : okR zs = true) (h0 : 1 ≤ T) (h1 : T ≤ 4611686018427388904) :
    Calls Try.prog 28 #[.int .u64 (T : Int), v] w (RowIs1 (pagesR T zs) w) := by
  have cfr := framed_any zs v w h hok
  obtain ⟨o, cap, rfl, _⟩ := h
  have h14 := (okR_inv hok).2
  have cpg := fun W => pagesOf_any (catL zs).length W (by omega)
  have HRS : Hid (∀ k, k < cntL (catL zs) → (pagesR T zs).take (k + 1) = (pagesR T zs).take k ++ [pageL (T + k) (pieceL (catL zs) k)]) := fun k hk => pagesR_succ T zs k hk
  have HRL : Hid ((pagesR T zs).length = cntL (catL zs)) := pagesR_len T zs
  have hcn : pagesN (catL zs).length = cntL (catL zs) := rfl
  rw [hcn] at cpg
  generalize catL zs = l at cfr cpg HRS HRL h14
  have hcl : cntL l ≤ 128 := by unfold cntL; omega
  generalize pagesR T zs = PS at HRS HRL ⊢
  have hz : (⟨l.toArray⟩ : ByteArray).size = l.length := size_list l
  obtain ⟨S, hS⟩ : ∃ S : ByteArray, S = ⟨l.toArray⟩ := ⟨_, rfl⟩
  rw [← hS] at hz cfr
  rw [← hz] at cpg
  have HS : Hid (S = ⟨l.toArray⟩ ∧ S.size = l.length) := ⟨hS, hz⟩
  have hSi : (S.size : Int) ≤ 14208 := by omega
  obtain ⟨c, hc⟩ : ∃ c, c = cntL l := ⟨_, rfl⟩
  rw [← hc] at cpg
  have HC : Hid (c = cntL l ∧ c ≤ 128) := ⟨hc, by rw [hc]; exact hcl⟩
  have hci : (c : Int) ≤ 128 := by omega
  have HT : Hid (1 ≤ T ∧ T ≤ 4611686018427388904) := ⟨h0, h1⟩
  have hTi : (T : Int) ≤ 4611686018427388904 := by omega
  clear hS hz h14 hcl hc hcn h0 h1 hok
  go_enter Try.func28, Try.ntmps28
  go_wp2_with fail
  go_at_call 58; refine cfr.mono ?_; rintro e w1 ⟨rfl, hb1⟩
  go_wp2_with fail
  go_at_call 37; refine (cpg _).mono ?_; rintro e w2 ⟨rfl, rfl⟩
  clear cfr cpg
  go_wp2_with fail
  go_loopw [6, 16] (fun o i wr => ∃ (k : Nat) (V : Value), k ≤ c ∧ i = .int .i64 k ∧ o = V ∧ Hid (wr.ownsRow w.heap.size 9 1 V k ((PS.take k).map Page.strV)) ∧ Below w.heap.size w wr) (fun _ i _ => c - (intOf i).toNat)
  case atStart => exact ⟨0, _, by omega, rfl, rfl, (World.ownsRow_nil _ _ _ _ : World.ownsRow _ _ _ _ _ _ _), hb1⟩
  case round =>
    obtain ⟨k, V, hk, rfl, hV, HO, hB⟩ := hrel
    by_cases hlt : k < c
    · have hk128 : k ≤ 128 := by have := HC.out; omega
      have hki : (k : Int) < (c : Int) := by omega
      obtain ⟨m, hm⟩ : ∃ m, m = 111 * k := ⟨_, rfl⟩
      have hmS : m < S.size := by have h1 := HC.out.1; have h2 := HS.out.2; unfold cntL at h1; omega
      have hmk : (k : Int) * 111 = (m : Int) := by omega
      have hmi : (m : Int) < (S.size : Int) := by omega
      have k1 : ∀ W, (Instr.slice 9 (.string S) (some (.int .i64 (m : Int))) (some (.int .i64 (min ((m : Int) + 111) (S.size : Int)))) none).run Try.prog W = .ok (.string ⟨(pieceL l k).toArray⟩) W := by
        intro W
        rw [slice_lh W S Try.underlying9 _ _ (by omega) (by omega) (by omega), ← extract_piece l k]
        rw [show ((m : Int)).toNat = 111 * k by omega, show (min ((m : Int) + 111) (S.size : Int)).toNat = min (111 * k + 111) l.length by have := HS.out.2; omega]
        rw [HS.out.1]
      have e2 : IntKind.u64.wrap (k : Int) = (k : Int) := by rw [IntKind.wrap_u64]; omega
      have e3 : IntKind.u64.wrap ((T : Int) + (k : Int)) = (T : Int) + (k : Int) := by rw [IntKind.wrap_u64]; omega
      have e4 : IntKind.i64.wrap (m : Int) = (m : Int) := by rw [IntKind.wrap_i64]; omega
      have cp := fun W => Page.put_any (T + k) (pieceL l k) W (by have := HT.out.2; omega) (by have := pieceL_len l k; omega)
      rw [putL_ok (by have := HT.out.1; omega) (pieceL_len l k), show ((T + k : Nat) : Int) = (T : Int) + (k : Int) by omega] at cp
      unfold StrIs at cp
      simp only at cp
      have HP : Hid (PS.take (k + 1) = PS.take k ++ [pageL (T + k) (pieceL l k)]) := HRS.out k (by rw [← HC.out.1]; exact hlt)
      obtain ⟨P, hP⟩ : ∃ P, P = pageL (T + k) (pieceL l k) := ⟨_, rfl⟩
      rw [← hP] at cp HP
      generalize (⟨(pieceL l k).toArray⟩ : ByteArray) = Pc at k1 cp
      clear hP hm
      have hown := HO.out
      obtain ⟨oo, cc, rfl⟩ : ∃ oo cc, V = .slice oo k cc := by
        rcases hown.2 with ⟨rfl, h0⟩ | ⟨g, cap, cur, rfl, _⟩
        · exact ⟨none, 0, by rw [h0]⟩
        · exact ⟨_, _, rfl⟩
      subst hV
      clear hown
      go_wp2_with fail
      go_at_call 59; refine (cp _).mono ?_; rintro e w3 ⟨rfl, hb3⟩
      have hB3 := below2 hB hb3
      have hown3 := own_keep HO.out hb3
      obtain ⟨g, cap, w4, hrun, hown4, hgrow⟩ := append_str P hown3 (by omega) hB3.size
      have hB4 : Below w.heap.size w w4 := below_row (hB3.alloc hB3.size _) (by have := hB3.size; simp; omega) (Nat.le_refl _) (hown3.alloc _) hgrow
      have HO4 : Hid (w4.ownsRow w.heap.size 9 1 (.slice (some ⟨g, 0, none⟩) (k + 1) cap) (k + 1) ((PS.take (k + 1)).map Page.strV)) := by
        show World.ownsRow _ _ _ _ _ _ _
        rw [HP.out, List.map_append]
        exact hown4
      clear hown3 hown4 hgrow cp k1 hb3
      go_wp2
      go_roundw
      case rel => exact ⟨k + 1, _, by omega, by go_num, rfl, HO4, hB4⟩
      case measure => simp [intOf]; omega
    · obtain rfl : k = c := by omega
      have HO2 : Hid (wr.ownsRow w.heap.size 9 1 V PS.length (PS.map Page.strV)) := by
        have h1 := HO.out
        rw [List.take_of_length_le (by rw [HRL.out, ← HC.out.1]; exact Nat.le_refl _)] at h1
        show World.ownsRow _ _ _ _ _ _ _
        rw [HRL.out, ← HC.out.1]
        exact h1
      subst hV
      go_wp2
      go_ret
      exact ⟨_, rfl, HO2.out, hB⟩
end Go.Proofs.Ytbikcpchlgmoaaa.Seg
namespace Go.Proofs.Ytbikcpchlgmoaaa.Seg
open Go.RowKit Go.Shelf
open Go.Proofs.Ytbikcpchlgmoaaa.Disk (Dk HasDk VBox Fits Ok okB ok_of ok_mk HasRow allH allH_len allH_whole below2 held_ok heldD)
open Go.Proofs.Ytbikcpchlgmoaaa.Page (joinL joinL_le)

/-- a segment's sectors -/
def segL (d : Dk) (s : Nat) : List (List UInt8) := ((allH d).drop (2 + s * (longE d).1)).take (longE d).1
/-- a segment's text, its pages, and why not -/
def textD (d : Dk) (s : Int) (t : Nat) : List UInt8 × Nat × Int :=
  if (longE d).2 = 0 then (if d.off = true then ([], 0, 9) else if segB s = true then ((joinL (segL d s.toNat) t).1, (joinL (segL d s.toNat) t).2, 0) else ([], 0, 1)) else ([], 0, (longE d).2)
def TextIs3 (r : List UInt8 × Nat × Int) (w : World) (e : Ending) (w' : World) : Prop := e = .returned (.tuple #[.string ⟨r.1.toArray⟩, .int .i64 (r.2.1 : Int), .int .i64 r.2.2]) ∧ Below w.heap.size w w'
theorem text3_of {r : List UInt8 × Nat × Int} {w w' : World} {l : List UInt8} {n : Nat} {y : Int} (h : r = (l, n, y)) (hb : Below w.heap.size w w') : TextIs3 r w (.returned (.tuple #[.string ⟨l.toArray⟩, .int .i64 (n : Int), .int .i64 y])) w' := by subst h; exact ⟨rfl, hb⟩
/-- a part of a row -/
theorem has_part {W : World} {b i cap : Nat} {zs : List (List UInt8)} (h : Disk.HasStrs W (.slice (some ⟨b, i, none⟩) zs.length cap) zs) (a n k : Nat) (hn : a + n ≤ zs.length) (h0 : 0 < zs.length) : Page.HasStrs W (.slice (some ⟨b, i + a, none⟩) n k) ((zs.drop a).take n) := by
  refine ⟨_, _, by rw [List.length_take, List.length_drop, Nat.min_eq_left (by omega)], fun j hj => ?_⟩
  rw [List.length_take, List.length_drop] at hj
  obtain ⟨_, b', i', e, hlt, hc⟩ := HasRow.at h h0
  injection e with e; injection e with e1 e2; subst e1; subst e2
  refine ⟨b, i + a, rfl, ?_, hlt⟩
  have := hc (a + j) (by omega)
  rw [show i + a + j = i + (a + j) by omega, this, List.getElem?_map, List.getElem?_eq_getElem (by omega), List.getElem_take, List.getElem_drop]
  rfl
theorem segL_len {d : Dk} (s : Nat) : (segL d s).length ≤ (longE d).1 := by unfold segL; rw [List.length_take]; omega
theorem segL_all {d : Dk} (h : Ok d) (s : Nat) : ∀ z ∈ segL d s, z.length = 128 := fun z hz => allH_whole h z (List.mem_of_mem_drop (List.mem_of_mem_take hz))
/-- in a disk that has segments -/
theorem long_inv {d : Dk} (h : (longE d).2 = 0) : okB d = true ∧ 10 ≤ d.secs.length ∧ d.secs.length ≤ 1024 ∧ (longE d).1 = (d.secs.length - 2) / 8 := by
  unfold longE at h ⊢
  split at h
  · rename_i hk
    rw [if_pos hk]
    split at h
    · simp at h
    · rename_i hl
      rw [if_neg hl]
      exact ⟨hk, by omega, (ok_of hk).many, rfl⟩
  · simp at h
theorem seg_room {n s : Nat} (h1 : 10 ≤ n) (hs : s < 8) : 2 + s * ((n - 2) / 8) + (n - 2) / 8 ≤ n := by
  have h2 : s * ((n - 2) / 8) ≤ 7 * ((n - 2) / 8) := Nat.mul_le_mul_right _ (by omega)
  omega
set_option maxHeartbeats 4000000 in
set_option maxRecDepth 20000 in
theorem read_any (d : Dk) (v : Value) (s : Int) (t : Nat) (w : World) (h : HasDk w v d) (hf : Fits d) (hs9 : -9223372036854775808 ≤ s ∧ s ≤ 9223372036854775807) (ht : t < 18446744073709551616) :
    Calls Try.prog 39 #[v, .int .i64 s, .int .u64 (t : Int)] w (TextIs3 (textD d s t) w) := by
  have clo := fun W (hb : Below w.heap.size w W) => long_any d v W (h.keep hb) hf
  have chd := fun W (hb : Below w.heap.size w W) => Disk.held_fn d v W (h.keep hb) hf
  unfold LongIs at clo
  unfold Disk.StrsIs at chd
  have cis := fun W => isSeg_any s W hs9
  obtain ⟨so, sc, co, cc, rfl, hsx, hcx⟩ := h.parts
  obtain ⟨X, hX⟩ : ∃ X, X = w.alloc (.cells #[.slice so d.secs.length sc, .slice co d.cache.length cc, .int .i64 d.fuse, .bool d.off] 25) := ⟨_, rfl⟩
  have hB0 : Below w.heap.size w X := by rw [hX]; exact (Below.refl _ w).alloc (Nat.le_refl _) _
  have vb : VBox X w.heap.size (.slice so d.secs.length sc) (.slice co d.cache.length cc) (.int .i64 d.fuse) (.bool d.off) := by rw [hX]; exact World.alloc_heap_new _ _
  obtain ⟨q0, q1, q2, q3, qf⟩ := vb.cells
  obtain ⟨R, hR⟩ : ∃ R, R = textD d s t := ⟨_, rfl⟩
  have HR : Hid (R = textD d s t) := hR
  rw [← hR]
  clear hR h hsx hcx
  by_cases hly : (longE d).2 = 0
  · obtain ⟨hok, h10, h1024, hL⟩ := long_inv hly
    have HRL : Hid (R = if d.off = true then ([], 0, 9) else if segB s = true then ((joinL (segL d s.toNat) t).1, (joinL (segL d s.toNat) t).2, 0) else ([], 0, 1)) := by show _ = _; rw [HR.out, textD, if_pos hly]
    rw [hly] at clo
    have HOK : Hid (Ok d) := ok_of hok
    rw [held_ok HOK.out] at chd
    simp only at chd
    have HAL : Hid ((allH d).length = d.secs.length) := allH_len d
    have HSEG : Hid (∀ a, segL d a = ((allH d).drop (2 + a * (longE d).1)).take (longE d).1) := fun a => rfl
    have HSA : Hid (∀ a, ∀ z ∈ segL d a, z.length = 128) := fun a => segL_all HOK.out a
    obtain ⟨L, hLL⟩ : ∃ L, L = (longE d).1 := ⟨_, rfl⟩
    rw [← hLL] at clo hL HSEG
    obtain ⟨n, hn⟩ : ∃ n, n = d.secs.length := ⟨_, rfl⟩
    have HN : Hid (10 ≤ n ∧ n ≤ 1024 ∧ L = (n - 2) / 8 ∧ (allH d).length = n) := ⟨by omega, by omega, by rw [hn]; exact hL, by rw [hn]; exact HAL.out⟩
    have hL127 : L ≤ 127 := by have := HN.out; omega
    have hLi : (L : Int) ≤ 127 := by omega
    clear hly hok h10 h1024 hL hLL hn HR HAL HOK
    generalize hoff : d.off = off at *
    cases off
    · rw [if_neg (by decide)] at HRL
      cases hsg : segB s
      · rw [hsg, if_neg (by decide)] at HRL
        rw [hsg] at cis
        go_enter Try.func39, Try.ntmps39
        go_upto_region 1 with fail
        rw [← hX]
        clear hX
        go_wp2_with fail
        go_at_call 11; refine (clo _ hB0).mono ?_; rintro e w1 ⟨rfl, hb1⟩
        have hB1 := below2 hB0 hb1
        clear q0 q1 q2 q3 qf clo
        obtain ⟨q0, q1, q2, q3, qf⟩ := (vb.below hb1).cells
        go_wp2_with fail
        go_at_call 57; refine (cis _).mono ?_; rintro e w2 ⟨rfl, rfl⟩
        go_wp2
        go_ret3
        exact text3_of HRL.out hB1
      · rw [hsg, if_pos rfl] at HRL
        rw [hsg] at cis
        have hs8 : 0 ≤ s ∧ s < 8 := by simpa [segB] using hsg
        obtain ⟨a, rfl⟩ := Int.eq_ofNat_of_zero_le hs8.1
        have ha8 : a < 8 := by omega
        rw [Int.toNat_natCast] at HRL
        have cpl := fun W => place_any L a W hL127 ha8
        have hroom : 2 + a * L + L ≤ n := by have := HN.out; rw [this.2.2.1]; exact seg_room this.1 ha8
        obtain ⟨p, hp⟩ : ∃ p, p = 2 + a * L := ⟨_, rfl⟩
        rw [← hp] at cpl hroom
        have hsg2 : segL d a = ((allH d).drop p).take L := by rw [HSEG.out a, hp]
        have hjl := joinL_le (segL d a) t
        have hsl : (segL d a).length ≤ 127 := by rw [hsg2, List.length_take]; omega
        have HJ : Hid (∀ W v, Page.HasStrs W v (segL d a) → Calls Try.prog 72 #[v, .int .u64 (t : Int)] W fun e w' => e = .returned (.tuple #[.string ⟨(joinL (segL d a) t).1.toArray⟩, .int .i64 ((joinL (segL d a) t).2 : Int)]) ∧ Below W.heap.size W w') := fun W v hv =>
          Page.join_any v (segL d a) t W hv ht (by omega) (fun z hz => by rw [HSA.out a z hz]; omega) (by omega)
        have hpi : (p : Int) ≤ 1024 := by have := HN.out; omega
        have HPN : Hid (p + L ≤ n ∧ segL d a = ((allH d).drop p).take L) := ⟨hroom, hsg2⟩
        clear hsg hs8 hsg2 hjl hsl hp HSEG HSA
        go_enter Try.func39, Try.ntmps39
        go_upto_region 1 with fail
        rw [← hX]
        clear hX
        go_wp2_with fail
        go_at_call 11; refine (clo _ hB0).mono ?_; rintro e w1 ⟨rfl, hb1⟩
        have hB1 := below2 hB0 hb1
        clear q0 q1 q2 q3 qf clo
        obtain ⟨q0, q1, q2, q3, qf⟩ := (vb.below hb1).cells
        go_wp2_with fail
        go_at_call 57; refine (cis _).mono ?_; rintro e w2 ⟨rfl, rfl⟩
        go_wp2_with fail
        go_at_call 71; refine (chd _ hB1).mono ?_; rintro e w3 ⟨u, rfl, hhs, hb3⟩
        have hB3 := below2 hB1 hb3
        obtain ⟨ho, hcap, rfl, hh1, hh2⟩ := HasRow.slice hhs
        obtain ⟨_, hb9, hi9, eho, _, _⟩ := HasRow.at hhs (by rw [HN.out.2.2.2]; have := HN.out.1; omega)
        subst eho
        have HHS : Hid (Disk.HasStrs w3 (.slice (some ⟨hb9, hi9, none⟩) (allH d).length hcap) (allH d)) := hhs
        rw [HN.out.2.2.2] at hh1 ⊢
        have hcn : (n : Int) ≤ (hcap : Int) := by omega
        have hci : (hcap : Int) ≤ 9223372036854775807 := by omega
        clear q0 q1 q2 q3 qf chd hhs
        go_wp2_with fail
        go_at_call 30; refine (cpl _).mono ?_; rintro e w4 ⟨rfl, rfl⟩
        have hpL : (p : Int) + (L : Int) ≤ (n : Int) := by have := HPN.out.1; omega
        have hpL2 : (p : Int) + (L : Int) ≤ (hcap : Int) := by omega
        have hpc : (p : Int) ≤ (p : Int) + (L : Int) := by omega
        have hL1 : 1 ≤ L := by have := HN.out; omega
        have hplt : (p : Int) < (hcap : Int) := by omega
        have hpltn : p < hcap := by omega
        have hpne : ¬ hcap = p := by omega
        have hpne2 : ¬ (hcap : Int) = (p : Int) := by omega
        have hpne3 : ¬ hcap ≤ p := by omega
        have hpne4 : ¬ hcap - p = 0 := by omega
        have hpne5 : ((hcap : Int) - (p : Int) == 0) = false := by rw [beq_eq_false_iff_ne]; omega
        go_wp2_with fail
        go_at_call 72; refine (HJ.out _ _ (by rw [HPN.out.2]; exact has_part HHS.out p L _ (by rw [HN.out.2.2.2]; exact HPN.out.1) (by rw [HN.out.2.2.2]; have := HN.out.1; omega))).mono ?_; rintro e w5 ⟨rfl, hb5⟩
        have hB5 := below2 hB3 hb5
        clear HJ hb5
        generalize joinL (segL d a) t = jr at HRL ⊢
        go_wp2
        go_ret3
        exact text3_of HRL.out hB5
    · rw [if_pos rfl] at HRL
      go_enter Try.func39, Try.ntmps39
      go_upto_region 1 with fail
      rw [← hX]
      clear hX
      go_wp2_with fail
      go_at_call 11; refine (clo _ hB0).mono ?_; rintro e w1 ⟨rfl, hb1⟩
      have hB1 := below2 hB0 hb1
      clear q0 q1 q2 q3 qf clo
      obtain ⟨q0, q1, q2, q3, qf⟩ := (vb.below hb1).cells
      go_wp2
      go_ret3
      exact text3_of HRL.out hB1
  · have HRL : Hid (R = ([], 0, (longE d).2)) := by show _ = _; rw [HR.out, textD, if_neg hly]
    generalize longE d = ll at clo HRL hly
    obtain ⟨L, y⟩ := ll
    simp only at clo HRL hly
    have hy2 : (y != 0) = true := by simpa using hly
    clear hly HR
    go_enter Try.func39, Try.ntmps39
    go_upto_region 1 with fail
    rw [← hX]
    clear hX
    go_wp2_with fail
    go_at_call 11; refine (clo _ hB0).mono ?_; rintro e w1 ⟨rfl, hb1⟩
    have hB1 := below2 hB0 hb1
    clear q0 q1 q2 q3 qf clo
    go_wp2
    go_ret3
    exact text3_of HRL.out hB1
set_option maxHeartbeats 4000000 in
set_option maxRecDepth 20000 in
theorem rtext_any (d : Dk) (v : Value) (s : Int) (t : Nat) (w : World) (h : HasDk w v d) (hf : Fits d) (hs9 : -9223372036854775808 ≤ s ∧ s ≤ 9223372036854775807) (ht : t < 18446744073709551616) :
    Calls Try.prog 41 #[v, .int .i64 s, .int .u64 (t : Int)] w (TextIs3 (textD d s t) w) := by
  have clo := fun W (hb : Below w.heap.size w W) => rlong_any d v W (h.keep hb) hf
  have chd := fun W (hb : Below w.heap.size w W) => Disk.rheld_any d v W (h.keep hb) hf
  unfold LongIs at clo
  unfold Disk.StrsIs at chd
  obtain ⟨so, sc, co, cc, rfl, hsx, hcx⟩ := h.parts
  obtain ⟨X, hX⟩ : ∃ X, X = w.alloc (.cells #[.slice so d.secs.length sc, .slice co d.cache.length cc, .int .i64 d.fuse, .bool d.off] 25) := ⟨_, rfl⟩
  have hB0 : Below w.heap.size w X := by rw [hX]; exact (Below.refl _ w).alloc (Nat.le_refl _) _
  have vb : VBox X w.heap.size (.slice so d.secs.length sc) (.slice co d.cache.length cc) (.int .i64 d.fuse) (.bool d.off) := by rw [hX]; exact World.alloc_heap_new _ _
  obtain ⟨q0, q1, q2, q3, qf⟩ := vb.cells
  obtain ⟨R, hR⟩ : ∃ R, R = textD d s t := ⟨_, rfl⟩
  have HR : Hid (R = textD d s t) := hR
  rw [← hR]
  clear hR h hsx hcx
  by_cases hly : (longE d).2 = 0
  · obtain ⟨hok, h10, h1024, hL⟩ := long_inv hly
    have HRL : Hid (R = if d.off = true then ([], 0, 9) else if segB s = true then ((joinL (segL d s.toNat) t).1, (joinL (segL d s.toNat) t).2, 0) else ([], 0, 1)) := by show _ = _; rw [HR.out, textD, if_pos hly]
    rw [hly] at clo
    have HOK : Hid (Ok d) := ok_of hok
    rw [held_ok HOK.out] at chd
    simp only at chd
    have HAL : Hid ((allH d).length = d.secs.length) := allH_len d
    have HSEG : Hid (∀ a, segL d a = ((allH d).drop (2 + a * (longE d).1)).take (longE d).1) := fun a => rfl
    have HSA : Hid (∀ a, ∀ z ∈ segL d a, z.length = 128) := fun a => segL_all HOK.out a
    obtain ⟨L, hLL⟩ : ∃ L, L = (longE d).1 := ⟨_, rfl⟩
    rw [← hLL] at clo hL HSEG
    obtain ⟨n, hn⟩ : ∃ n, n = d.secs.length := ⟨_, rfl⟩
    have HN : Hid (10 ≤ n ∧ n ≤ 1024 ∧ L = (n - 2) / 8 ∧ (allH d).length = n) := ⟨by omega, by omega, by rw [hn]; exact hL, by rw [hn]; exact HAL.out⟩
    have hL127 : L ≤ 127 := by have := HN.out; omega
    have hLi : (L : Int) ≤ 127 := by omega
    clear hly hok h10 h1024 hL hLL hn HR HAL HOK
    generalize hoff : d.off = off at *
    cases off
    · rw [if_neg (by decide)] at HRL
      cases hsg : segB s
      · rw [hsg, if_neg (by decide)] at HRL
        have hsd : decide (s < 0) = true ∨ (decide (s < 0) = false ∧ decide (8 ≤ s) = true) := by
          have h8 : ¬ (0 ≤ s ∧ s < 8) := by simpa [segB] using hsg
          simp only [decide_eq_true_eq, decide_eq_false_iff_not]
          omega
        clear hsg
        rcases hsd with d1 | ⟨d1, d2⟩
        all_goals
          go_enter Try.func41, Try.ntmps41
          go_upto_region 1 with fail
          rw [← hX]
          clear hX
          go_wp2_with fail
          go_at_call 12; refine (clo _ hB0).mono ?_; rintro e w1 ⟨rfl, hb1⟩
          have hB1 := below2 hB0 hb1
          clear q0 q1 q2 q3 qf clo
          obtain ⟨q0, q1, q2, q3, qf⟩ := (vb.below hb1).cells
          go_wp2
          go_ret3
          exact text3_of HRL.out hB1
      · rw [hsg, if_pos rfl] at HRL
        have hs8 : 0 ≤ s ∧ s < 8 := by simpa [segB] using hsg
        obtain ⟨a, rfl⟩ := Int.eq_ofNat_of_zero_le hs8.1
        have ha8 : a < 8 := by omega
        rw [Int.toNat_natCast] at HRL
        have d1 : decide ((a : Int) < 0) = false := by rw [decide_eq_false_iff_not]; omega
        have d2 : decide ((8 : Int) ≤ (a : Int)) = false := by rw [decide_eq_false_iff_not]; omega
        have d3 : decide (8 ≤ a) = false := by rw [decide_eq_false_iff_not]; omega
        have hroom : 2 + a * L + L ≤ n := by have := HN.out; rw [this.2.2.1]; exact seg_room this.1 ha8
        obtain ⟨p, hp⟩ : ∃ p, p = 2 + a * L := ⟨_, rfl⟩
        rw [← hp] at hroom
        obtain ⟨pm, hpm⟩ : ∃ pm, pm = a * L := ⟨_, rfl⟩
        have hmul : (a : Int) * (L : Int) = (pm : Int) := by rw [hpm]; simp
        have hpp : 2 + (pm : Int) = (p : Int) := by rw [hp, hpm]; omega
        have hpml : (pm : Int) ≤ 1024 := by have := HN.out; omega
        have hsg2 : segL d a = ((allH d).drop p).take L := by rw [HSEG.out a, hp]
        have hjl := joinL_le (segL d a) t
        have hsl : (segL d a).length ≤ 127 := by rw [hsg2, List.length_take]; omega
        have HJ : Hid (∀ W v, Page.HasStrs W v (segL d a) → Calls Try.prog 75 #[v, .int .u64 (t : Int)] W fun e w' => e = .returned (.tuple #[.string ⟨(joinL (segL d a) t).1.toArray⟩, .int .i64 ((joinL (segL d a) t).2 : Int)]) ∧ Below W.heap.size W w') := fun W v hv =>
          Page.rjoin_any v (segL d a) t W hv ht (by omega) (fun z hz => by rw [HSA.out a z hz]; omega) (by omega)
        have hpi : (p : Int) ≤ 1024 := by have := HN.out; omega
        have HPN : Hid (p + L ≤ n ∧ segL d a = ((allH d).drop p).take L) := ⟨hroom, hsg2⟩
        clear hsg hs8 hsg2 hjl hsl hp hpm HSEG HSA
        go_enter Try.func41, Try.ntmps41
        go_upto_region 1 with fail
        rw [← hX]
        clear hX
        go_wp2_with fail
        go_at_call 12; refine (clo _ hB0).mono ?_; rintro e w1 ⟨rfl, hb1⟩
        have hB1 := below2 hB0 hb1
        clear q0 q1 q2 q3 qf clo
        obtain ⟨q0, q1, q2, q3, qf⟩ := (vb.below hb1).cells
        go_wp2_with fail
        go_at_call 74; refine (chd _ hB1).mono ?_; rintro e w3 ⟨u, rfl, hhs, hb3⟩
        have hB3 := below2 hB1 hb3
        obtain ⟨ho, hcap, rfl, hh1, hh2⟩ := HasRow.slice hhs
        obtain ⟨_, hb9, hi9, eho, _, _⟩ := HasRow.at hhs (by rw [HN.out.2.2.2]; have := HN.out.1; omega)
        subst eho
        have HHS : Hid (Disk.HasStrs w3 (.slice (some ⟨hb9, hi9, none⟩) (allH d).length hcap) (allH d)) := hhs
        rw [HN.out.2.2.2] at hh1 ⊢
        have hcn : (n : Int) ≤ (hcap : Int) := by omega
        have hci : (hcap : Int) ≤ 9223372036854775807 := by omega
        clear q0 q1 q2 q3 qf chd hhs
        have hpL : (p : Int) + (L : Int) ≤ (n : Int) := by have := HPN.out.1; omega
        have hpL2 : (p : Int) + (L : Int) ≤ (hcap : Int) := by omega
        have hpc : (p : Int) ≤ (p : Int) + (L : Int) := by omega
        have hL1 : 1 ≤ L := by have := HN.out; omega
        have hplt : (p : Int) < (hcap : Int) := by omega
        have hpltn : p < hcap := by omega
        have hpne : ¬ hcap = p := by omega
        have hpne2 : ¬ (hcap : Int) = (p : Int) := by omega
        have hpne3 : ¬ hcap ≤ p := by omega
        have hpne4 : ¬ hcap - p = 0 := by omega
        have hpne5 : ((hcap : Int) - (p : Int) == 0) = false := by rw [beq_eq_false_iff_ne]; omega
        go_wp2_with fail
        go_at_call 75; refine (HJ.out _ _ (by rw [HPN.out.2]; exact has_part HHS.out p L _ (by rw [HN.out.2.2.2]; exact HPN.out.1) (by rw [HN.out.2.2.2]; have := HN.out.1; omega))).mono ?_; rintro e w5 ⟨rfl, hb5⟩
        have hB5 := below2 hB3 hb5
        clear HJ hb5
        generalize joinL (segL d a) t = jr at HRL ⊢
        go_wp2
        go_ret3
        exact text3_of HRL.out hB5
    · rw [if_pos rfl] at HRL
      go_enter Try.func41, Try.ntmps41
      go_upto_region 1 with fail
      rw [← hX]
      clear hX
      go_wp2_with fail
      go_at_call 12; refine (clo _ hB0).mono ?_; rintro e w1 ⟨rfl, hb1⟩
      have hB1 := below2 hB0 hb1
      clear q0 q1 q2 q3 qf clo
      obtain ⟨q0, q1, q2, q3, qf⟩ := (vb.below hb1).cells
      go_wp2
      go_ret3
      exact text3_of HRL.out hB1
  · have HRL : Hid (R = ([], 0, (longE d).2)) := by show _ = _; rw [HR.out, textD, if_neg hly]
    generalize longE d = ll at clo HRL hly
    obtain ⟨L, y⟩ := ll
    simp only at clo HRL hly
    have hy2 : (y != 0) = true := by simpa using hly
    clear hly HR
    go_enter Try.func41, Try.ntmps41
    go_upto_region 1 with fail
    rw [← hX]
    clear hX
    go_wp2_with fail
    go_at_call 12; refine (clo _ hB0).mono ?_; rintro e w1 ⟨rfl, hb1⟩
    have hB1 := below2 hB0 hb1
    clear q0 q1 q2 q3 qf clo
    go_wp2
    go_ret3
    exact text3_of HRL.out hB1
end Go.Proofs.Ytbikcpchlgmoaaa.Seg
namespace Go.Proofs.Ytbikcpchlgmoaaa.Seg
open Go.RowKit Go.Shelf
open Go.Proofs.Ytbikcpchlgmoaaa.Disk (Dk HasDk VBox Fits Ok okB ok_of below2)
open Go.Proofs.Ytbikcpchlgmoaaa.Page (joinL joinL_le)
open Go.Proofs.Ytbikcpchlgmoaaa.Frame (allL allL_le takeL has_own TakeIs)

def scanD (d : Dk) (s : Int) (t : Nat) : List (List UInt8) × Nat × Int := if (textD d s t).2.2 = 0 then ((allL (textD d s t).1).1, (textD d s t).2.1, 0) else ([], 0, (textD d s t).2.2)
def ScanIs (r : List (List UInt8) × Nat × Int) (w : World) (e : Ending) (w' : World) : Prop := ∃ v, e = .returned (.tuple #[v, .int .i64 (r.2.1 : Int), .int .i64 r.2.2]) ∧ Frame.HasStrs w' v r.1 ∧ Below w.heap.size w w'
theorem has_nil (W : World) (o : Option Addr) (c : Nat) : Frame.HasStrs W (.slice o 0 c) [] := ⟨o, c, rfl, fun j hj => by simp at hj⟩
theorem scan_of {r : List (List UInt8) × Nat × Int} {w w' : World} {zs : List (List UInt8)} {n : Nat} {y : Int} {v : Value} (h : r = (zs, n, y)) (hv : Frame.HasStrs w' v zs) (hb : Below w.heap.size w w') : ScanIs r w (.returned (.tuple #[v, .int .i64 (n : Int), .int .i64 y])) w' := by subst h; exact ⟨v, rfl, hv, hb⟩
theorem text_len (d : Dk) (s : Int) (t : Nat) : (textD d s t).1.length ≤ 14097 := by
  unfold textD
  split
  · rename_i hly
    split
    · simp
    · split
      · have h1 := joinL_le (segL d s.toNat) t
        have h2 := segL_len (d := d) s.toNat
        obtain ⟨_, _, h3, h4⟩ := long_inv hly
        have : (segL d s.toNat).length ≤ 127 := by omega
        show (joinL (segL d s.toNat) t).1.length ≤ _
        omega
      · simp
  · simp
def tookL (many : Int) (l : List UInt8) : List (List UInt8) × List UInt8 × Int := if many < 0 then ([], [], 1) else takeL many.toNat l
theorem took_err (many : Int) (l : List UInt8) (h : (tookL many l).2.2 ≠ 0) : (tookL many l).1 = [] := by
  unfold tookL at h ⊢
  split
  · rfl
  · rename_i hm
    rw [if_neg hm] at h
    revert h
    generalize many.toNat = n
    cases n with
    | zero => intro h; exact absurd rfl h
    | succ n =>
      intro h
      unfold takeL at h ⊢
      split
      · rename_i h1
        rw [if_pos h1] at h
        split
        · rename_i h2; rw [if_pos h2] at h; exact absurd rfl h
        · rfl
      · rfl
def takeD (d : Dk) (s : Int) (t : Nat) (many : Int) : List (List UInt8) × Int :=
  if (textD d s t).2.2 = 0 then (if (tookL many (textD d s t).1).2.2 = 0 then ((tookL many (textD d s t).1).1, 0) else if (tookL many (textD d s t).1).2.2 = 1 then ([], 1) else ([], 7)) else ([], (textD d s t).2.2)
def RecsIs (r : List (List UInt8) × Int) (w : World) (e : Ending) (w' : World) : Prop := ∃ v, e = .returned (.tuple #[v, .int .i64 r.2]) ∧ Frame.HasStrs w' v r.1 ∧ Below w.heap.size w w'
theorem recs_of {r : List (List UInt8) × Int} {w w' : World} {zs : List (List UInt8)} {y : Int} {v : Value} (h : r = (zs, y)) (hv : Frame.HasStrs w' v zs) (hb : Below w.heap.size w w') : RecsIs r w (.returned (.tuple #[v, .int .i64 y])) w' := by subst h; exact ⟨v, rfl, hv, hb⟩
set_option maxHeartbeats 2000000 in
theorem scan_any (d : Dk) (v : Value) (s : Int) (t : Nat) (w : World) (h : HasDk w v d) (hf : Fits d) (hs9 : -9223372036854775808 ≤ s ∧ s ≤ 9223372036854775807) (ht : t < 18446744073709551616) :
    Calls Try.prog 17 #[v, .int .i64 s, .int .u64 (t : Int)] w (ScanIs (scanD d s t) w) := by
  have crd := fun W (hb : Below w.heap.size w W) => read_any d v s t W (h.keep hb) hf hs9 ht
  unfold TextIs3 at crd
  have hlen := text_len d s t
  obtain ⟨so, sc, co, cc, rfl, hsx, hcx⟩ := h.parts
  obtain ⟨X, hX⟩ : ∃ X, X = w.alloc (.cells #[.slice so d.secs.length sc, .slice co d.cache.length cc, .int .i64 d.fuse, .bool d.off] 25) := ⟨_, rfl⟩
  have hB0 : Below w.heap.size w X := by rw [hX]; exact (Below.refl _ w).alloc (Nat.le_refl _) _
  have vb : VBox X w.heap.size (.slice so d.secs.length sc) (.slice co d.cache.length cc) (.int .i64 d.fuse) (.bool d.off) := by rw [hX]; exact World.alloc_heap_new _ _
  obtain ⟨q0, q1, q2, q3, qf⟩ := vb.cells
  have HR : Hid (scanD d s t = if (textD d s t).2.2 = 0 then ((allL (textD d s t).1).1, (textD d s t).2.1, 0) else ([], 0, (textD d s t).2.2)) := rfl
  generalize scanD d s t = R at HR ⊢
  generalize textD d s t = tx at crd HR hlen
  obtain ⟨l, n, y⟩ := tx
  simp only at crd HR hlen
  have cal := fun W => Frame.all_any l W (by omega) (by have := (allL_le l.length l (Nat.le_refl _)).2; omega)
  clear h hsx hcx
  by_cases hy : y = 0
  · subst hy
    have HR2 : Hid (R = ((allL l).1, n, 0)) := by show _ = _; rw [HR.out, if_pos rfl]
    generalize (⟨l.toArray⟩ : ByteArray) = Lb at crd cal
    go_enter Try.func17, Try.ntmps17
    go_upto_region 1 with fail
    rw [← hX]
    clear hX
    go_wp2_with fail
    go_at_call 39; refine (crd _ hB0).mono ?_; rintro e w1 ⟨rfl, hb1⟩
    have hB1 := below2 hB0 hb1
    clear q0 q1 q2 q3 qf crd
    go_wp2_with fail
    go_at_call 40; refine (cal _).mono ?_; rintro e w2 ⟨v2, rfl, o2, hb2⟩
    have hB2 := below2 hB1 hb2
    have hv2 := has_own o2
    clear o2 cal
    go_wp2
    go_ret3
    exact scan_of HR2.out hv2 hB2
  · have HR2 : Hid (R = ([], 0, y)) := by show _ = _; rw [HR.out, if_neg hy]
    have hy2 : (y != 0) = true := by simpa using hy
    generalize (⟨l.toArray⟩ : ByteArray) = Lb at crd
    clear hy cal
    go_enter Try.func17, Try.ntmps17
    go_upto_region 1 with fail
    rw [← hX]
    clear hX
    go_wp2_with fail
    go_at_call 39; refine (crd _ hB0).mono ?_; rintro e w1 ⟨rfl, hb1⟩
    have hB1 := below2 hB0 hb1
    clear q0 q1 q2 q3 qf crd
    go_wp2
    go_ret3
    exact scan_of HR2.out (has_nil _ _ _) hB1
theorem took_any (l : List UInt8) (many : Int) (w : World) (hl : l.length ≤ 14097) (hm : -9223372036854775808 ≤ many ∧ many ≤ 9223372036854775807) : Calls Try.prog 43 #[.string ⟨l.toArray⟩, .int .i64 many] w (TakeIs w (tookL many l)) := by
  unfold tookL
  split
  · rename_i h; exact Frame.take_neg l many w h hm.1
  · obtain ⟨n, rfl⟩ := Int.eq_ofNat_of_zero_le (show 0 ≤ many by omega)
    exact Frame.take_any l n w (by omega) (by omega) (.inr (by have := (allL_le l.length l (Nat.le_refl _)).2; omega))
theorem rtook_any (l : List UInt8) (many : Int) (w : World) (hl : l.length ≤ 14097) (hm : -9223372036854775808 ≤ many ∧ many ≤ 9223372036854775807) : Calls Try.prog 44 #[.string ⟨l.toArray⟩, .int .i64 many] w (TakeIs w (tookL many l)) := by
  unfold tookL
  split
  · rename_i h; exact Frame.rtake_neg l many w h hm.1
  · obtain ⟨n, rfl⟩ := Int.eq_ofNat_of_zero_le (show 0 ≤ many by omega)
    exact Frame.rtake_any l n w (by omega) (by omega)
set_option maxHeartbeats 2000000 in
theorem take_any (d : Dk) (v : Value) (s : Int) (t : Nat) (many : Int) (w : World) (h : HasDk w v d) (hf : Fits d) (hs9 : -9223372036854775808 ≤ s ∧ s ≤ 9223372036854775807) (ht : t < 18446744073709551616) (hm : -9223372036854775808 ≤ many ∧ many ≤ 9223372036854775807) :
    Calls Try.prog 19 #[v, .int .i64 s, .int .u64 (t : Int), .int .i64 many] w (RecsIs (takeD d s t many) w) := by
  have crd := fun W (hb : Below w.heap.size w W) => read_any d v s t W (h.keep hb) hf hs9 ht
  unfold TextIs3 at crd
  have hlen := text_len d s t
  obtain ⟨so, sc, co, cc, rfl, hsx, hcx⟩ := h.parts
  obtain ⟨X, hX⟩ : ∃ X, X = w.alloc (.cells #[.slice so d.secs.length sc, .slice co d.cache.length cc, .int .i64 d.fuse, .bool d.off] 25) := ⟨_, rfl⟩
  have hB0 : Below w.heap.size w X := by rw [hX]; exact (Below.refl _ w).alloc (Nat.le_refl _) _
  have vb : VBox X w.heap.size (.slice so d.secs.length sc) (.slice co d.cache.length cc) (.int .i64 d.fuse) (.bool d.off) := by rw [hX]; exact World.alloc_heap_new _ _
  obtain ⟨q0, q1, q2, q3, qf⟩ := vb.cells
  have HR : Hid (takeD d s t many = if (textD d s t).2.2 = 0 then (if (tookL many (textD d s t).1).2.2 = 0 then ((tookL many (textD d s t).1).1, 0) else if (tookL many (textD d s t).1).2.2 = 1 then ([], 1) else ([], 7)) else ([], (textD d s t).2.2)) := rfl
  generalize takeD d s t many = R at HR ⊢
  generalize textD d s t = tx at crd HR hlen
  obtain ⟨l, n, y⟩ := tx
  simp only at crd HR hlen
  have ctk := fun W => took_any l many W hlen hm
  have hte := took_err many l
  clear h hsx hcx
  by_cases hy : y = 0
  · subst hy
    rw [if_pos rfl] at HR
    generalize tookL many l = tk at ctk HR hte
    obtain ⟨zs, rest, y2⟩ := tk
    unfold TakeIs at ctk
    simp only at ctk HR hte
    generalize (⟨l.toArray⟩ : ByteArray) = Lb at crd ctk
    have hyy : y2 = 0 ∧ Hid (R = (zs, 0)) ∨ y2 = 1 ∧ Hid (R = ([], 1) ∧ zs = []) ∨ ((y2 != 0) = true ∧ (y2 != 1) = true ∧ Hid (R = ([], 7))) := by
      by_cases h0 : y2 = 0
      · exact .inl ⟨h0, by show _ = _; rw [HR.out, if_pos h0]⟩
      · by_cases h1 : y2 = 1
        · exact .inr (.inl ⟨h1, by rw [HR.out, if_neg h0, if_pos h1], hte h0⟩)
        · exact .inr (.inr ⟨by simpa using h0, by simpa using h1, by show _ = _; rw [HR.out, if_neg h0, if_neg h1]⟩)
    clear HR hte
    rcases hyy with ⟨rfl, HR⟩ | ⟨rfl, HR⟩ | ⟨h0, h1, HR⟩
    all_goals
      go_enter Try.func19, Try.ntmps19
      go_upto_region 1 with fail
      rw [← hX]
      clear hX
      go_wp2_with fail
      go_at_call 39; refine (crd _ hB0).mono ?_; rintro e w1 ⟨rfl, hb1⟩
      have hB1 := below2 hB0 hb1
      clear q0 q1 q2 q3 qf crd
      go_wp2_with fail
      go_at_call 43; refine (ctk _).mono ?_; rintro e w2 ⟨v2, rfl, o2, hb2⟩
      have hB2 := below2 hB1 hb2
      have hv2 := has_own o2
      clear o2 ctk
      go_wp2
      go_ret2
      first
        | exact recs_of HR.out hv2 hB2
        | exact recs_of HR.out.1 (by rw [← HR.out.2]; exact hv2) hB2
        | exact recs_of HR.out (has_nil _ _ _) hB2
        | exact recs_of HR.out.1 (has_nil _ _ _) hB2
  · have HR2 : Hid (R = ([], y)) := by show _ = _; rw [HR.out, if_neg hy]
    have hy2 : (y != 0) = true := by simpa using hy
    generalize (⟨l.toArray⟩ : ByteArray) = Lb at crd
    clear hy ctk hte
    go_enter Try.func19, Try.ntmps19
    go_upto_region 1 with fail
    rw [← hX]
    clear hX
    go_wp2_with fail
    go_at_call 39; refine (crd _ hB0).mono ?_; rintro e w1 ⟨rfl, hb1⟩
    have hB1 := below2 hB0 hb1
    clear q0 q1 q2 q3 qf crd
    go_wp2
    go_ret2
    exact recs_of HR2.out (has_nil _ _ _) hB1
set_option maxHeartbeats 2000000 in
theorem rscan_any (d : Dk) (v : Value) (s : Int) (t : Nat) (w : World) (h : HasDk w v d) (hf : Fits d) (hs9 : -9223372036854775808 ≤ s ∧ s ≤ 9223372036854775807) (ht : t < 18446744073709551616) :
    Calls Try.prog 18 #[v, .int .i64 s, .int .u64 (t : Int)] w (ScanIs (scanD d s t) w) := by
  have crd := fun W (hb : Below w.heap.size w W) => rtext_any d v s t W (h.keep hb) hf hs9 ht
  unfold TextIs3 at crd
  have hlen := text_len d s t
  obtain ⟨so, sc, co, cc, rfl, hsx, hcx⟩ := h.parts
  obtain ⟨X, hX⟩ : ∃ X, X = w.alloc (.cells #[.slice so d.secs.length sc, .slice co d.cache.length cc, .int .i64 d.fuse, .bool d.off] 25) := ⟨_, rfl⟩
  have hB0 : Below w.heap.size w X := by rw [hX]; exact (Below.refl _ w).alloc (Nat.le_refl _) _
  have vb : VBox X w.heap.size (.slice so d.secs.length sc) (.slice co d.cache.length cc) (.int .i64 d.fuse) (.bool d.off) := by rw [hX]; exact World.alloc_heap_new _ _
  obtain ⟨q0, q1, q2, q3, qf⟩ := vb.cells
  have HR : Hid (scanD d s t = if (textD d s t).2.2 = 0 then ((allL (textD d s t).1).1, (textD d s t).2.1, 0) else ([], 0, (textD d s t).2.2)) := rfl
  generalize scanD d s t = R at HR ⊢
  generalize textD d s t = tx at crd HR hlen
  obtain ⟨l, n, y⟩ := tx
  simp only at crd HR hlen
  have cal := fun W => Frame.rall_any l W (by omega)
  clear h hsx hcx
  by_cases hy : y = 0
  · subst hy
    have HR2 : Hid (R = ((allL l).1, n, 0)) := by show _ = _; rw [HR.out, if_pos rfl]
    generalize (⟨l.toArray⟩ : ByteArray) = Lb at crd cal
    go_enter Try.func18, Try.ntmps18
    go_upto_region 1 with fail
    rw [← hX]
    clear hX
    go_wp2_with fail
    go_at_call 41; refine (crd _ hB0).mono ?_; rintro e w1 ⟨rfl, hb1⟩
    have hB1 := below2 hB0 hb1
    clear q0 q1 q2 q3 qf crd
    go_wp2_with fail
    go_at_call 42; refine (cal _).mono ?_; rintro e w2 ⟨v2, rfl, o2, hb2⟩
    have hB2 := below2 hB1 hb2
    have hv2 := has_own o2
    clear o2 cal
    go_wp2
    go_ret3
    exact scan_of HR2.out hv2 hB2
  · have HR2 : Hid (R = ([], 0, y)) := by show _ = _; rw [HR.out, if_neg hy]
    have hy2 : (y != 0) = true := by simpa using hy
    generalize (⟨l.toArray⟩ : ByteArray) = Lb at crd
    clear hy cal
    go_enter Try.func18, Try.ntmps18
    go_upto_region 1 with fail
    rw [← hX]
    clear hX
    go_wp2_with fail
    go_at_call 41; refine (crd _ hB0).mono ?_; rintro e w1 ⟨rfl, hb1⟩
    have hB1 := below2 hB0 hb1
    clear q0 q1 q2 q3 qf crd
    go_wp2
    go_ret3
    exact scan_of HR2.out (has_nil _ _ _) hB1
set_option maxHeartbeats 2000000 in
theorem rtake_any (d : Dk) (v : Value) (s : Int) (t : Nat) (many : Int) (w : World) (h : HasDk w v d) (hf : Fits d) (hs9 : -9223372036854775808 ≤ s ∧ s ≤ 9223372036854775807) (ht : t < 18446744073709551616) (hm : -9223372036854775808 ≤ many ∧ many ≤ 9223372036854775807) :
    Calls Try.prog 20 #[v, .int .i64 s, .int .u64 (t : Int), .int .i64 many] w (RecsIs (takeD d s t many) w) := by
  have crd := fun W (hb : Below w.heap.size w W) => rtext_any d v s t W (h.keep hb) hf hs9 ht
  unfold TextIs3 at crd
  have hlen := text_len d s t
  obtain ⟨so, sc, co, cc, rfl, hsx, hcx⟩ := h.parts
  obtain ⟨X, hX⟩ : ∃ X, X = w.alloc (.cells #[.slice so d.secs.length sc, .slice co d.cache.length cc, .int .i64 d.fuse, .bool d.off] 25) := ⟨_, rfl⟩
  have hB0 : Below w.heap.size w X := by rw [hX]; exact (Below.refl _ w).alloc (Nat.le_refl _) _
  have vb : VBox X w.heap.size (.slice so d.secs.length sc) (.slice co d.cache.length cc) (.int .i64 d.fuse) (.bool d.off) := by rw [hX]; exact World.alloc_heap_new _ _
  obtain ⟨q0, q1, q2, q3, qf⟩ := vb.cells
  have HR : Hid (takeD d s t many = if (textD d s t).2.2 = 0 then (if (tookL many (textD d s t).1).2.2 = 0 then ((tookL many (textD d s t).1).1, 0) else if (tookL many (textD d s t).1).2.2 = 1 then ([], 1) else ([], 7)) else ([], (textD d s t).2.2)) := rfl
  generalize takeD d s t many = R at HR ⊢
  generalize textD d s t = tx at crd HR hlen
  obtain ⟨l, n, y⟩ := tx
  simp only at crd HR hlen
  have ctk := fun W => rtook_any l many W hlen hm
  have hte := took_err many l
  clear h hsx hcx
  by_cases hy : y = 0
  · subst hy
    rw [if_pos rfl] at HR
    generalize tookL many l = tk at ctk HR hte
    obtain ⟨zs, rest, y2⟩ := tk
    unfold TakeIs at ctk
    simp only at ctk HR hte
    generalize (⟨l.toArray⟩ : ByteArray) = Lb at crd ctk
    have hyy : y2 = 0 ∧ Hid (R = (zs, 0)) ∨ y2 = 1 ∧ Hid (R = ([], 1) ∧ zs = []) ∨ ((y2 != 0) = true ∧ (y2 != 1) = true ∧ Hid (R = ([], 7))) := by
      by_cases h0 : y2 = 0
      · exact .inl ⟨h0, by show _ = _; rw [HR.out, if_pos h0]⟩
      · by_cases h1 : y2 = 1
        · exact .inr (.inl ⟨h1, by rw [HR.out, if_neg h0, if_pos h1], hte h0⟩)
        · exact .inr (.inr ⟨by simpa using h0, by simpa using h1, by show _ = _; rw [HR.out, if_neg h0, if_neg h1]⟩)
    clear HR hte
    rcases hyy with ⟨rfl, HR⟩ | ⟨rfl, HR⟩ | ⟨h0, h1, HR⟩
    all_goals
      go_enter Try.func20, Try.ntmps20
      go_upto_region 1 with fail
      rw [← hX]
      clear hX
      go_wp2_with fail
      go_at_call 41; refine (crd _ hB0).mono ?_; rintro e w1 ⟨rfl, hb1⟩
      have hB1 := below2 hB0 hb1
      clear q0 q1 q2 q3 qf crd
      go_wp2_with fail
      go_at_call 44; refine (ctk _).mono ?_; rintro e w2 ⟨v2, rfl, o2, hb2⟩
      have hB2 := below2 hB1 hb2
      have hv2 := has_own o2
      clear o2 ctk
      go_wp2
      go_ret2
      first
        | exact recs_of HR.out hv2 hB2
        | exact recs_of HR.out.1 (by rw [← HR.out.2]; exact hv2) hB2
        | exact recs_of HR.out (has_nil _ _ _) hB2
        | exact recs_of HR.out.1 (has_nil _ _ _) hB2
  · have HR2 : Hid (R = ([], y)) := by show _ = _; rw [HR.out, if_neg hy]
    have hy2 : (y != 0) = true := by simpa using hy
    generalize (⟨l.toArray⟩ : ByteArray) = Lb at crd
    clear hy ctk hte
    go_enter Try.func20, Try.ntmps20
    go_upto_region 1 with fail
    rw [← hX]
    clear hX
    go_wp2_with fail
    go_at_call 41; refine (crd _ hB0).mono ?_; rintro e w1 ⟨rfl, hb1⟩
    have hB1 := below2 hB0 hb1
    clear q0 q1 q2 q3 qf crd
    go_wp2
    go_ret2
    exact recs_of HR2.out (has_nil _ _ _) hB1
end Go.Proofs.Ytbikcpchlgmoaaa.Seg
namespace Go.Proofs.Ytbikcpchlgmoaaa.Seg
open Go.RowKit Go.Shelf
open Go.Proofs.Ytbikcpchlgmoaaa.Disk (Dk HasDk VDk VBox RBox Fits fits_ok Ok okB ok_of HasRow Back back_of writeD outD_ok zeroD zeroD_has set4_grown set4_below below2 HasStrs HasPuts)
open Go.Proofs.Ytbikcpchlgmoaaa.Page (pageL pieceL pieceL_len cntL)
open Go.Proofs.Ytbikcpchlgmoaaa.Frame (catL)

/-- pages that are written one behind the other, up to the first error -/
def putAll (d : Dk) (b : Nat) : List (List UInt8) → Dk × Int
  | [] => (d, 0)
  | p :: ps => if (writeD d (b : Int) p).2 = 0 then putAll (writeD d (b : Int) p).1 (b + 1) ps else writeD d (b : Int) p
def writeS (d : Dk) (s : Int) (t : Nat) (at' : Int) (zs : List (List UInt8)) : Dk × Nat × Int :=
  if (longE d).2 = 0 then
    (if mayE (longE d).1 s t at' zs = 0 then
      (if (putAll d (2 + s.toNat * (longE d).1 + at'.toNat) (pagesR (t + at'.toNat) zs)).2 = 0 then ((putAll d (2 + s.toNat * (longE d).1 + at'.toNat) (pagesR (t + at'.toNat) zs)).1, at'.toNat + cntL (catL zs), 0)
       else ((putAll d (2 + s.toNat * (longE d).1 + at'.toNat) (pagesR (t + at'.toNat) zs)).1, 0, (putAll d (2 + s.toNat * (longE d).1 + at'.toNat) (pagesR (t + at'.toNat) zs)).2))
     else (d, 0, mayE (longE d).1 s t at' zs))
  else (zeroD, 0, (longE d).2)
def WrIs (r : Dk × Nat × Int) (w : World) (e : Ending) (w' : World) : Prop := ∃ u, e = .returned (.tuple #[u, .int .i64 (r.2.1 : Int), .int .i64 r.2.2]) ∧ HasDk w' u r.1 ∧ Below w.heap.size w w'
theorem may_inv {L : Nat} {s : Int} {t : Nat} {at' : Int} {zs : List (List UInt8)} (h : mayE L s t at' zs = 0) : (∃ a : Nat, s = (a : Int) ∧ a < 8) ∧ (1 ≤ t ∧ t ≤ 4611686018427387904) ∧ (∃ b : Nat, at' = (b : Int) ∧ b + cntL (catL zs) ≤ L) ∧ okR zs = true := by
  unfold mayE at h
  split at h
  · rename_i hc
    split at h
    · rename_i hn
      have hok : okR zs = true := by
        unfold needE at hn
        split at hn
        · assumption
        · simp at hn
      have hne : (needE zs).1 = cntL (catL zs) := by unfold needE; rw [if_pos hok]; rfl
      split at h
      · simp at h
      · rename_i hf
        rw [hne] at hf
        have h8 : 0 ≤ s ∧ s < 8 := by simpa [segB] using hc.1
        exact ⟨⟨s.toNat, by omega, by omega⟩, hc.2.1 |> fun h1 => ⟨h1, hc.2.2.1⟩, ⟨at'.toNat, by omega, by omega⟩, hok⟩
    · rename_i hn; exact absurd h hn
  · simp at h
theorem page_len (T : Nat) (zs : List (List UInt8)) (k : Nat) (h : k < (pagesR T zs).length) : (pagesR T zs)[k].length = 128 := by
  rw [pagesR_at]; exact Page.pageL_len _ _ (pieceL_len _ _)
theorem has_box {W W' : World} {v : Value} {ps : List (List UInt8)} {B : Nat} (h : Page.HasStrs W v ps) (hx : ∀ x z, W.cell? ⟨B, x, none⟩ ≠ some (.string z)) (hg : W.grownBy W' (some B)) : Page.HasStrs W' v ps := by
  obtain ⟨o, cap, e, g⟩ := h
  refine ⟨o, cap, e, fun j hj => ?_⟩
  obtain ⟨b, i, e1, e2, e3⟩ := g j hj
  refine ⟨b, i, e1, ?_, Nat.lt_of_lt_of_le e3 hg.size⟩
  rw [← e2]
  exact Disk.gcell hg b (i + j) e3 (by simp; rintro rfl; exact hx _ _ e2)
theorem putAll_step (d : Dk) (b k : Nat) (ps : List (List UInt8)) (hk : k < ps.length) : putAll d (b + k) (ps.drop k) = if (writeD d ((b + k : Nat) : Int) ps[k]).2 = 0 then putAll (writeD d ((b + k : Nat) : Int) ps[k]).1 (b + (k + 1)) (ps.drop (k + 1)) else writeD d ((b + k : Nat) : Int) ps[k] := by
  rw [List.drop_eq_getElem_cons hk, putAll]; rfl
theorem results_cell_tmp2 {fn : Func} {p u x : Tmp} {ty : TypeId} (h : fn.results = #[.cell p ty, .tmp u, .tmp x]) (tmps : Array Value) (P : Program) (w : World) :
    (results fn tmps).run P w = ((asAddr (tmps.getD p undef)).run P w).andThen fun a w₁ => ((loadVar ty a).run P w₁).andThen fun v w₂ => .ok (.tuple #[v, tmps.getD u undef, tmps.getD x undef]) w₂ := by
  simp only [results, h]
  simp [Sem.run_bind, Result.andThen]
/-- the boxes of a write -/
structure WrAt (w W : World) (be : Nat) (D : Dk) : Prop where
  disk : VDk W be D
  res : RBox W (w.heap.size + 1)
  below : Below w.heap.size w W
  be1 : w.heap.size + 1 < be
theorem WrAt.keep {w W W' : World} {be : Nat} {D : Dk} (h : WrAt w W be D) (hb : Below W.heap.size W W') : WrAt w W' be D := ⟨h.disk.below hb, h.res.below hb, below2 h.below hb, h.be1⟩
theorem WrAt.store {w W : World} {be : Nat} {D r : Dk} {so co : Option Addr} {sc cc : Nat} (h : WrAt w W be D) (hs : HasStrs W (.slice so r.secs.length sc) r.secs) (hc : HasPuts W (.slice co r.cache.length cc) r.cache) :
    WrAt w ((((W.setCell ⟨be, 0, none⟩ (.slice so r.secs.length sc)).setCell ⟨be, 1, none⟩ (.slice co r.cache.length cc)).setCell ⟨be, 2, none⟩ (.int .i64 r.fuse)).setCell ⟨be, 3, none⟩ (.bool r.off)) be r :=
  ⟨h.disk.store hs hc, h.res.kept (set4_grown _ _ _ _ _ _) (by have := h.be1; simp; omega), set4_below h.below (by have := h.be1; omega) _ _ _ _, h.be1⟩
/-- what is answered -/
theorem WrAt.out {w W : World} {be : Nat} {D : Dk} {so co : Option Addr} {sc cc : Nat} (h : WrAt w W be D) (hs : HasStrs W (.slice so D.secs.length sc) D.secs) (hc : HasPuts W (.slice co D.cache.length cc) D.cache) :
    HasDk ((((W.setCell ⟨w.heap.size + 1, 0, none⟩ (.slice so D.secs.length sc)).setCell ⟨w.heap.size + 1, 1, none⟩ (.slice co D.cache.length cc)).setCell ⟨w.heap.size + 1, 2, none⟩ (.int .i64 D.fuse)).setCell ⟨w.heap.size + 1, 3, none⟩ (.bool D.off)) (.agg #[.slice so D.secs.length sc, .slice co D.cache.length cc, .int .i64 D.fuse, .bool D.off]) D ∧
    Below w.heap.size w ((((W.setCell ⟨w.heap.size + 1, 0, none⟩ (.slice so D.secs.length sc)).setCell ⟨w.heap.size + 1, 1, none⟩ (.slice co D.cache.length cc)).setCell ⟨w.heap.size + 1, 2, none⟩ (.int .i64 D.fuse)).setCell ⟨w.heap.size + 1, 3, none⟩ (.bool D.off)) ∧
    VBox ((((W.setCell ⟨w.heap.size + 1, 0, none⟩ (.slice so D.secs.length sc)).setCell ⟨w.heap.size + 1, 1, none⟩ (.slice co D.cache.length cc)).setCell ⟨w.heap.size + 1, 2, none⟩ (.int .i64 D.fuse)).setCell ⟨w.heap.size + 1, 3, none⟩ (.bool D.off)) (w.heap.size + 1) (.slice so D.secs.length sc) (.slice co D.cache.length cc) (.int .i64 D.fuse) (.bool D.off) :=
  ⟨⟨_, _, rfl, hs.box h.res.nostr (set4_grown _ _ _ _ _ _), hc.box h.res.nostr (set4_grown _ _ _ _ _ _)⟩, set4_below h.below (by omega) _ _ _ _, VBox.set (x := .slice none 0 0) (y := .slice none 0 0) (z := .int .i64 0) (u := .bool false) h.res _ _ _ _⟩
set_option maxHeartbeats 8000000 in
set_option maxRecDepth 20000 in
theorem swrite_any (d : Dk) (v : Value) (s : Int) (t : Nat) (at' : Int) (zs : List (List UInt8)) (u : Value) (w : World) (h : HasDk w v d) (hf : Fits d) (hu : Frame.HasStrs w u zs) (hn9 : zs.length ≤ 9223372036854775807) (hz9 : ∀ z ∈ zs, z.length ≤ 9223372036854775807)
    (hs9 : -9223372036854775808 ≤ s ∧ s ≤ 9223372036854775807) (ht : t < 18446744073709551616) (ha : -9223372036854775808 ≤ at' ∧ at' ≤ 9223372036854775807) :
    Calls Try.prog 9 #[v, .int .i64 s, .int .u64 (t : Int), .int .i64 at', u] w (WrIs (writeS d s t at' zs) w) := by
  have hhu : ∀ W, Below w.heap.size w W → Frame.HasStrs W u zs := fun W hb => by
    obtain ⟨o, c, e, g⟩ := hu
    exact ⟨o, c, e, fun j hj => by obtain ⟨b, i, e1, e2, e3⟩ := g j hj; exact ⟨b, i, e1, (hb.cell (p := ⟨b, i + j, none⟩) e3).trans e2, Nat.lt_of_lt_of_le e3 hb.size⟩⟩
  have clo := fun W (hb : Below w.heap.size w W) => long_any d v W (h.keep hb) hf
  unfold LongIs at clo
  have HMY : Hid (∀ (L : Nat) (W : World), L ≤ 127 → Below w.heap.size w W → Calls Try.prog 27 #[.int .i64 (L : Int), .int .i64 s, .int .u64 (t : Int), .int .i64 at', u] W fun e w' => e = .returned (.int .i64 (mayE L s t at' zs)) ∧ Below W.heap.size W w') := fun L W hL hb => may_any L s t at' zs u W (hhu W hb) hn9 hz9 hL hs9 ht ha
  have HFR : Hid (Ok d → ∀ W, Below w.heap.size w W → Calls Try.prog 26 #[v] W fun e w' => ∃ u, e = .returned u ∧ HasDk w' u d ∧ Below W.heap.size W w') := fun hk W hb => Disk.fresh_any d v W (h.keep hb) hk
  have HBA : Hid (∀ (T : Nat) (W : World), Below w.heap.size w W → okR zs = true → 1 ≤ T → T ≤ 4611686018427388904 → Calls Try.prog 28 #[.int .u64 (T : Int), u] W (RowIs1 (pagesR T zs) W)) := fun T W hb hok h0 h1 => batch_any T zs u W (hhu W hb) hok h0 h1
  obtain ⟨so, sc, co, cc, rfl, hsx, hcx⟩ := h.parts
  obtain ⟨uo, uc, rfl, _⟩ := hu
  obtain ⟨X, hX⟩ : ∃ X, X = (w.alloc (.cells #[.slice so d.secs.length sc, .slice co d.cache.length cc, .int .i64 d.fuse, .bool d.off] 25)).alloc (.cells #[.slice none 0 0, .slice none 0 0, .int .i64 0, .bool false] 25) := ⟨_, rfl⟩
  have hB0 : Below w.heap.size w X := by rw [hX]; exact ((Below.refl _ w).alloc (Nat.le_refl _) _).alloc (by simp) _
  have vb : VBox X w.heap.size (.slice so d.secs.length sc) (.slice co d.cache.length cc) (.int .i64 d.fuse) (.bool d.off) := by rw [hX]; exact VBox.below (World.alloc_heap_new _ _) ((Below.refl _ _).alloc (Nat.le_refl _) _)
  have rb : RBox X (w.heap.size + 1) := by
    have := World.alloc_heap_new (w.alloc (.cells #[.slice so d.secs.length sc, .slice co d.cache.length cc, .int .i64 d.fuse, .bool d.off] 25)) (.cells #[.slice none 0 0, .slice none 0 0, .int .i64 0, .bool false] 25)
    rw [World.size_alloc, ← hX] at this
    exact this
  obtain ⟨q0, q1, q2, q3, qf⟩ := vb.cells
  obtain ⟨R, hR⟩ : ∃ R, R = writeS d s t at' zs := ⟨_, rfl⟩
  have HR : Hid (R = writeS d s t at' zs) := hR
  rw [← hR]
  have hti : (t : Int) ≤ 18446744073709551615 := by omega
  have HF : Hid (Fits d) := hf
  clear hR h hsx hcx hhu hz9 hn9 hf
  by_cases hly : (longE d).2 = 0
  · obtain ⟨hok, h10, h1024, hL⟩ := long_inv hly
    have HOK : Hid (Ok d) := ok_of hok
    have hL127 : (longE d).1 ≤ 127 := by omega
    have cfr := HFR.out HOK.out
    have cmy := fun W hb => HMY.out (longE d).1 W hL127 hb
    rw [hly] at clo
    have HR2 : Hid (R = if mayE (longE d).1 s t at' zs = 0 then (if (putAll d (2 + s.toNat * (longE d).1 + at'.toNat) (pagesR (t + at'.toNat) zs)).2 = 0 then ((putAll d (2 + s.toNat * (longE d).1 + at'.toNat) (pagesR (t + at'.toNat) zs)).1, at'.toNat + cntL (catL zs), 0)
       else ((putAll d (2 + s.toNat * (longE d).1 + at'.toNat) (pagesR (t + at'.toNat) zs)).1, 0, (putAll d (2 + s.toNat * (longE d).1 + at'.toNat) (pagesR (t + at'.toNat) zs)).2))
     else (d, 0, mayE (longE d).1 s t at' zs)) := by show _ = _; rw [HR.out, writeS, if_pos hly]
    have HMI : Hid (mayE (longE d).1 s t at' zs = 0 → (∃ a : Nat, s = (a : Int) ∧ a < 8) ∧ (1 ≤ t ∧ t ≤ 4611686018427387904) ∧ (∃ b : Nat, at' = (b : Int) ∧ b + cntL (catL zs) ≤ (longE d).1) ∧ okR zs = true) := may_inv
    have HLN : Hid (10 ≤ d.secs.length ∧ d.secs.length ≤ 1024 ∧ (longE d).1 = (d.secs.length - 2) / 8) := ⟨h10, h1024, hL⟩
    generalize (longE d).1 = L at clo cmy HR2 HMI HLN hL127
    have hLi : (L : Int) ≤ 127 := by omega
    generalize mayE L s t at' zs = my at cmy HR2 HMI
    clear hly hok h10 h1024 hL HR HFR HMY
    go_enter Try.func9, Try.ntmps9
    go_upto_region 1 with fail
    rw [← hX]
    clear hX
    go_wp2_with fail
    go_at_call 11; refine (clo _ hB0).mono ?_; rintro e w1 ⟨rfl, hb1⟩
    have hB1 := below2 hB0 hb1
    have vb1 := vb.below hb1
    have rb1 := rb.below hb1
    clear q0 q1 q2 q3 qf clo vb rb hB0
    obtain ⟨q0, q1, q2, q3, qf⟩ := vb1.cells
    go_wp2_with fail
    go_at_call 26; refine (cfr _ hB1).mono ?_; rintro e w2 ⟨fu, rfl, hd2, hb2⟩
    obtain ⟨s1, s2, s3, s4, rfl, hs2, hc2⟩ := hd2.parts
    obtain ⟨X2, hX2⟩ : ∃ X, X = w2.alloc (.cells #[.slice s1 d.secs.length s2, .slice s3 d.cache.length s4, .int .i64 d.fuse, .bool d.off] 25) := ⟨_, rfl⟩
    obtain ⟨be, hbe⟩ : ∃ b, b = w2.heap.size := ⟨_, rfl⟩
    have hbX : Below w2.heap.size w2 X2 := by rw [hX2]; exact (Below.refl _ _).alloc (Nat.le_refl _) _
    have HW2 : Hid (WrAt w X2 be d) := by
      refine ⟨by rw [hX2, hbe]; exact VDk.new hs2 hc2, rb1.below (below2 hb2 hbX), below2 hB1 (below2 hb2 hbX), ?_⟩
      have := rb1.lt
      have := hb2.size
      omega
    go_upto_region 5 with fail
    rw [← hX2, ← hbe]
    clear hX2 hbe hbX hb2 hs2 hc2 hd2 cfr q0 q1 q2 q3 qf vb1 rb1 hB1 hb1
    go_wp2_with fail
    go_at_call 27; refine (cmy _ HW2.out.below).mono ?_; rintro e w3 ⟨rfl, hb3⟩
    have HW3 : Hid (WrAt w w3 be d) := HW2.out.keep hb3
    clear HW2 cmy hb3
    by_cases hmy : my = 0
    · subst hmy
      obtain ⟨⟨a, rfl, ha8⟩, ⟨ht1, ht2⟩, ⟨b, rfl, hbc⟩, hok⟩ := HMI.out rfl
      rw [if_pos rfl, Int.toNat_natCast, Int.toNat_natCast] at HR2
      have cba := HBA.out (t + b) w3 HW3.out.below hok (by omega) (by omega)
      have hroom : 2 + a * L + L ≤ d.secs.length := by have := HLN.out; rw [this.2.2]; exact seg_room this.1 ha8
      obtain ⟨c, hc⟩ : ∃ c, c = cntL (catL zs) := ⟨_, rfl⟩
      have hPl := pagesR_len (t + b) zs
      have HPL : Hid (∀ k (hk : k < (pagesR (t + b) zs).length), (pagesR (t + b) zs)[k].length = 128) := fun k hk => page_len (t + b) zs k hk
      rw [← hc] at hbc HR2 hPl
      generalize pagesR (t + b) zs = PS at cba HR2 hPl HPL
      obtain ⟨p0, hp0⟩ : ∃ p, p = 2 + a * L := ⟨_, rfl⟩
      have cpl := fun W => place_any L a W hL127 ha8
      rw [← hp0] at cpl HR2 hroom
      have HRO : Hid (p0 + L ≤ d.secs.length ∧ d.secs.length ≤ 1024 ∧ b + c ≤ L ∧ PS.length = c) := ⟨hroom, HLN.out.2.1, hbc, hPl⟩
      have hci : (c : Int) ≤ 127 := by omega
      have hbi : (b : Int) ≤ 127 := by omega
      have hp0i : (p0 : Int) ≤ 1024 := by have := HRO.out; omega
      have e1 : IntKind.u64.wrap (b : Int) = (b : Int) := by rw [IntKind.wrap_u64]; omega
      have e2 : IntKind.u64.wrap ((t : Int) + (b : Int)) = (t : Int) + (b : Int) := by rw [IntKind.wrap_u64]; omega
      rw [show ((t + b : Nat) : Int) = (t : Int) + (b : Int) by omega] at cba
      unfold RowIs1 at cba
      clear HMI HBA hc hp0 hroom hbc ht1 ht2 hok HLN hPl
      go_wp2_with fail
      go_at_call 28; refine cba.mono ?_; rintro e w4 ⟨v4, rfl, o4, hb4⟩
      have h4 := Page.has_own o4
      obtain ⟨po, pc, rfl, hpg⟩ := h4
      have HW4 : Hid (WrAt w w4 be d) := HW3.out.keep hb4
      have HPG : Hid (Page.HasStrs w4 (.slice po PS.length pc) PS) := ⟨_, _, rfl, hpg⟩
      have hPc : PS.length = c := HRO.out.2.2.2
      rw [hPc]
      rw [hPc] at HPG
      have HFU : Hid (d.fuse ≤ 9223372036854775807) := HF.out.1.2
      clear cba o4 hb4 HW3 hpg HF hPc
      go_wp2_with fail
      go_loopw [3, 14, 47] (fun at' y i wr => ∃ (k : Nat) (D : Dk), k ≤ c ∧ i = .int .i64 k ∧ at' = .int .i64 ((b : Int) + (k : Int)) ∧ y = .int .i64 0 ∧ Hid (WrAt w wr be D ∧ Page.HasStrs wr (.slice po c pc) PS ∧ Ok D ∧ D.fuse ≤ 9223372036854775807 ∧ putAll d (p0 + b) PS = putAll D (p0 + b + k) (PS.drop k))) (fun _ _ i _ => c - (intOf i).toNat)
      case atStart => exact ⟨0, d, by omega, rfl, by simp, rfl, ⟨HW4.out, HPG.out, HOK.out, HFU.out, rfl⟩⟩
      case round =>
        obtain ⟨k, D, hk, rfl, rfl, rfl, HV⟩ := hrel
        clear HW4 HPG HFU HOK
        by_cases hlt : k < c
        · have hkz : k < PS.length := by rw [HRO.out.2.2.2]; exact hlt
          have hki : (k : Int) < (c : Int) := by omega
          obtain ⟨hv, hst, hvo, hvf, hve⟩ := HV.out
          obtain ⟨o, cp, eo, hcs⟩ := hst
          injection eo with eo1 eo2 eo3
          obtain ⟨b', i, eb, hcell, hbs⟩ := hcs k hkz
          rw [← eo1] at eb
          subst eb
          clear eo1 eo2 eo3 hcs
          unfold Page.strV at hcell
          have hle := HPL.out k hkz
          obtain ⟨s5, s6, s7, s8, vb, hs, hc⟩ := hv.disk
          obtain ⟨q0, q1, q2, q3, qf⟩ := vb.cells
          have cw := fun W (hW : Below wr.heap.size wr W) => (Disk.write_fn D _ ((p0 + b + k : Nat) : Int) PS[k] W ⟨_, _, rfl, hs.keep hW, hc.keep hW⟩ (fits_ok hvo hvf) (by have := HRO.out; omega) (by omega)).mono (fun e w' h => back_of h)
          simp only [outD_ok hvo] at cw
          unfold Disk.strV at cw
          have HST := putAll_step D (p0 + b) k PS hkz
          rw [← hve] at HST
          have HOW : Hid (Ok (writeD D ((p0 + b + k : Nat) : Int) PS[k]).1 ∧ (writeD D ((p0 + b + k : Nat) : Int) PS[k]).1.fuse ≤ 9223372036854775807) := ⟨Disk.write_ok hvo _ _, Disk.write_fuse hvf _ _⟩
          generalize writeD D ((p0 + b + k : Nat) : Int) PS[k] = r at cw HST HOW
          obtain ⟨D2, y2⟩ := r
          unfold Back at cw
          simp only at cw HST HOW
          have HST2 : Hid (putAll d (p0 + b) PS = if y2 = 0 then putAll D2 (p0 + b + (k + 1)) (PS.drop (k + 1)) else (D2, y2)) := HST
          rw [show ((p0 + b + k : Nat) : Int) = (p0 : Int) + ((b : Int) + (k : Int)) by omega] at cw
          generalize (⟨(PS[k]).toArray⟩ : ByteArray) = Pk at cw hcell
          have hw2 : IntKind.i64.wrap ((p0 : Int) + ((b : Int) + (k : Int))) = (p0 : Int) + ((b : Int) + (k : Int)) := by rw [IntKind.wrap_i64]; omega
          clear HST hve hv hvo hvf hle
          go_upto_region 11 with fail
          go_region_with
            (first
              | (go_at_call 30; refine (cpl _).mono ?_; rintro e w5 ⟨rfl, rfl⟩)
              | (go_at_call 29
                 refine (cw _ ?_).mono ?_
                 · repeat' (first | with_reducible exact Below.refl _ _ | with_reducible apply Below.drew)
                 rintro e w6 ⟨a1, a2, a3, a4, rfl, hs6, hc6, hb6⟩
                 have hb6' : Below wr.heap.size wr w6 := below2 (by repeat' (first | with_reducible exact Below.refl _ _ | with_reducible apply Below.drew)) hb6
                 obtain ⟨g0, g1, g2, g3, gf⟩ := (vb.below hb6').cells))
          all_goals
            obtain ⟨W7, hW7⟩ : ∃ W, W = ((((w6.setCell ⟨be, 0, none⟩ (.slice a1 D2.secs.length a2)).setCell ⟨be, 1, none⟩ (.slice a3 D2.cache.length a4)).setCell ⟨be, 2, none⟩ (.int .i64 D2.fuse)).setCell ⟨be, 3, none⟩ (.bool D2.off)) := ⟨_, rfl⟩
            have HVN : Hid (WrAt w W7 be D2 ∧ Page.HasStrs W7 (.slice (some ⟨b', i, none⟩) c pc) PS) := by rw [hW7]; exact ⟨(HV.out.1.keep hb6').store hs6 hc6, has_box (HV.out.2.1.keep hb6') (HV.out.1.disk.below hb6').ne (set4_grown _ _ _ _ _ _)⟩
            clear q0 q1 q2 q3 qf vb hs hc cw hs6 hc6 hb6 hb6' HV hcell hbs
            go_upto_region 12 with fail
            rw [← hW7]
            clear hW7 g0 g1 g2 g3 gf
            by_cases hy : y2 = 0
          any_goals
            have hy' := hy
            subst hy'
            have HP2 : Hid (putAll d (p0 + b) PS = putAll D2 (p0 + b + (k + 1)) (PS.drop (k + 1))) := by show _ = _; rw [HST2.out, if_pos rfl]
            go_wp2_with fail
            go_roundw
            case rel => exact ⟨k + 1, D2, by omega, by go_num, by go_num, rfl, ⟨HVN.out.1, HVN.out.2, HOW.out.1, HOW.out.2, HP2.out⟩⟩
            case measure => simp [intOf]; omega
          all_goals
            have hP2 : putAll d (p0 + b) PS = (D2, y2) := by rw [HST2.out, if_neg hy]
            have hRR : R = (D2, 0, y2) := by rw [HR2.out, hP2, if_neg hy]
            have hv := HVN.out.1
            obtain ⟨s5, s6, s7, s8, vb, hs, hc⟩ := hv.disk
            obtain ⟨q0, q1, q2, q3, qf⟩ := vb.cells
            obtain ⟨z0, z1, z2, z3, zf⟩ := hv.res.cells
            have HO1 := hv.out hs hc
            have HO : Hid _ := HO1
            clear HO1
            subst hRR
            clear hP2 HST2 HR2 HVN hv hs hc vb
            go_wp2
            (try simp only [Exit.inBlock, Exit.then])
            refine bodyPost_ret (v := .tuple #[.agg #[.slice s5 D2.secs.length s6, .slice s7 D2.cache.length s8, .int .i64 D2.fuse, .bool D2.off], .int .i64 0, .int .i64 y2]) ?_ rfl ⟨_, rfl, HO.out.1, HO.out.2.1⟩
            rw [results_cell_tmp2 rfl]
            go_simp
        · obtain rfl : k = c := by omega
          obtain ⟨hv, hst, hvo, hvf, hve⟩ := HV.out
          obtain ⟨s5, s6, s7, s8, vb, hs, hc⟩ := hv.disk
          obtain ⟨q0, q1, q2, q3, qf⟩ := vb.cells
          obtain ⟨z0, z1, z2, z3, zf⟩ := hv.res.cells
          have hRR : R = (D, b + k, 0) := by
            rw [HR2.out, hve, List.drop_of_length_le (by rw [HRO.out.2.2.2]; exact Nat.le_refl _), putAll]; rfl
          have HO1 := hv.out hs hc
          have HO : Hid _ := HO1
          clear HO1
          subst hRR
          clear hv hst hvo hvf hve hs hc vb HR2 HV
          go_wp2
          (try simp only [Exit.inBlock, Exit.then])
          refine bodyPost_ret (v := .tuple #[.agg #[.slice s5 D.secs.length s6, .slice s7 D.cache.length s8, .int .i64 D.fuse, .bool D.off], .int .i64 ((b : Int) + (k : Int)), .int .i64 0]) ?_ rfl ⟨_, by simp, HO.out.1, HO.out.2.1⟩
          rw [results_cell_tmp2 rfl]
          go_simp
    · have hRR : R = (d, 0, my) := by rw [HR2.out, if_neg hmy]
      have hv := HW3.out
      obtain ⟨s5, s6, s7, s8, vb, hs, hc⟩ := hv.disk
      obtain ⟨q0, q1, q2, q3, qf⟩ := vb.cells
      obtain ⟨z0, z1, z2, z3, zf⟩ := hv.res.cells
      have HO1 := hv.out hs hc
      have HO : Hid _ := HO1
      clear HO1
      subst hRR
      clear HR2 HW3 hv hs hc vb HMI HBA
      go_wp2
      (try simp only [Exit.inBlock, Exit.then])
      refine bodyPost_ret (v := .tuple #[.agg #[.slice s5 d.secs.length s6, .slice s7 d.cache.length s8, .int .i64 d.fuse, .bool d.off], .int .i64 0, .int .i64 my]) ?_ rfl ⟨_, rfl, HO.out.1, HO.out.2.1⟩
      rw [results_cell_tmp2 rfl]
      go_simp
  · have hRR : R = (zeroD, 0, (longE d).2) := by rw [HR.out, writeS, if_neg hly]
    generalize longE d = le at clo hly hRR
    obtain ⟨L, y⟩ := le
    simp only at clo hly hRR
    subst hRR
    clear HR HBA HFR HMY HF
    go_enter Try.func9, Try.ntmps9
    go_upto_region 1 with fail
    rw [← hX]
    clear hX
    go_wp2_with fail
    go_at_call 11; refine (clo _ hB0).mono ?_; rintro e w1 ⟨rfl, hb1⟩
    have hB1 := below2 hB0 hb1
    have rb1 := rb.below hb1
    obtain ⟨z0, z1, z2, z3, zf⟩ := rb1.cells
    clear q0 q1 q2 q3 qf clo vb rb hB0
    go_wp2
    (try simp only [Exit.inBlock, Exit.then])
    refine bodyPost_ret (v := .tuple #[.agg #[.slice none 0 0, .slice none 0 0, .int .i64 0, .bool false], .int .i64 0, .int .i64 y]) ?_ rfl ⟨_, rfl, zeroD_has _, set4_below hB1 (by omega) _ _ _ _⟩
    rw [results_cell_tmp2 rfl]
    go_simp
end Go.Proofs.Ytbikcpchlgmoaaa.Seg
namespace Go.Proofs.Ytbikcpchlgmoaaa.Seg
open Go.RowKit Go.Shelf
open Go.Proofs.Ytbikcpchlgmoaaa.Disk (Dk HasDk VDk VBox RBox Fits fits_ok Ok okB ok_of HasRow Back back_of writeD outD_ok zeroD zeroD_has set4_grown set4_below below2 HasStrs HasPuts makeD pair_of fits_of)

def LD1 : Dk := (makeD 26).1
def LD2 : Dk := (writeS LD1 1 5 0 [[97], [98, 99]]).1
def LD3 : Dk := (writeS LD2 1 5 1 [[100]]).1
theorem sl1 : makeD 26 = (LD1, 0) := pair_of (by rw [LD1]) (by decide +kernel)
theorem sl2 : longE LD1 = (3, 0) := by decide +kernel
theorem sl3 : writeS LD1 1 5 0 [[97], [98, 99]] = (LD2, 1, 0) := by
  have h : (writeS LD1 1 5 0 [[97], [98, 99]]).2 = (1, 0) := by decide +kernel
  rw [LD2, ← h]
theorem sl4 : writeS LD2 1 5 1 [[100]] = (LD3, 2, 0) := by
  have h : (writeS LD2 1 5 1 [[100]]).2 = (2, 0) := by decide +kernel
  rw [LD3, ← h]
theorem sl5 : scanD LD3 1 5 = ([[97], [98, 99], [100]], 2, 0) := by decide +kernel
theorem sl6 : takeD LD3 1 5 2 = ([[97], [98, 99]], 0) := by decide +kernel
theorem sl7 : takeD LD3 1 5 4 = ([], 7) := by decide +kernel
theorem sl8 : scanD LD3 1 6 = ([], 0, 0) := by decide +kernel
theorem sl9 : needE [List.replicate 106 0, [98]] = (2, 0) := by decide +kernel
theorem sl10 : (writeS LD3 1 5 2 [List.replicate 200 0]).2 = (0, 8) := by decide +kernel
theorem sf1 : Fits LD1 := fits_of (by decide +kernel)
theorem sf2 : Fits LD2 := fits_of (by decide +kernel)
theorem sf3 : Fits LD3 := fits_of (by decide +kernel)
theorem mk_conv (W : World) (n : Nat) (h : n ≤ 1000000) : ∃ A, (Instr.makeSlice 65 (.int .i64 (n : Int)) (.int .i64 (n : Int))).run Try.prog W = .ok (.slice (some ⟨W.heap.size, 0, none⟩) n n) A ∧
    (∀ A', Below A.heap.size A A' → (convert 65 9 (.slice (some ⟨W.heap.size, 0, none⟩) n n)).run Try.prog A' = .ok (.string ⟨(List.replicate n 0).toArray⟩) A') ∧ Below W.heap.size W A ∧ A.heap.size = W.heap.size + 1 := by
  refine ⟨_, Page.make_bytes W n h .i64 .i64, fun A' hb => ?_, (Below.refl _ W).alloc (Nat.le_refl _) _, by simp⟩
  have hr : Page.RowAt (W.alloc (.cells (List.replicate n Page.zero8).toArray 5)) W.heap.size (Page.cellsL (List.replicate n 0)) 5 := by
    rw [show Page.cellsL (List.replicate n 0) = List.replicate n Page.zero8 by simp [Page.cellsL, Page.zero8]]
    exact Page.RowAt.new W _ _
  have hc := Page.conv_row _ (hr.below hb) n
  rw [List.length_replicate] at hc
  exact hc
theorem below_al {w W : World} {x : Obj} (h : Below w.heap.size w W) : Below w.heap.size w (W.alloc x) := h.alloc h.size x
theorem lit_has (W : World) (zs : List (List UInt8)) : Frame.HasStrs (W.alloc (.cells (zs.map Frame.strV).toArray 9)) (.slice (some ⟨W.heap.size, 0, none⟩) zs.length zs.length) zs := by
  refine ⟨_, _, rfl, fun j hj => ⟨W.heap.size, 0, rfl, ?_, by simp⟩⟩
  simp only [World.cell?, World.alloc_heap_new]
  rw [if_neg (by simp), List.getElem?_toArray, List.getElem?_map, Nat.zero_add, List.getElem?_eq_getElem hj]
  rfl
/-- what a write answers, its disk in pieces -/
def WrB (D : Dk) (n y : Int) (w : World) (e : Ending) (w' : World) : Prop := ∃ so sc co cc, e = .returned (.tuple #[.agg #[.slice so D.secs.length sc, .slice co D.cache.length cc, .int .i64 D.fuse, .bool D.off], .int .i64 n, .int .i64 y]) ∧ HasStrs w' (.slice so D.secs.length sc) D.secs ∧ HasPuts w' (.slice co D.cache.length cc) D.cache ∧ Below w.heap.size w w'
theorem wrb_of {r : Dk × Nat × Int} {w : World} {e : Ending} {w' : World} (h : WrIs r w e w') : WrB r.1 (r.2.1 : Int) r.2.2 w e w' := by
  obtain ⟨u, rfl, hd, hb⟩ := h
  obtain ⟨so, sc, co, cc, rfl, h1, h2⟩ := hd.parts
  exact ⟨so, sc, co, cc, rfl, h1, h2, hb⟩
def ScB (zs : List (List UInt8)) (n y : Int) (w : World) (e : Ending) (w' : World) : Prop := ∃ o c, e = .returned (.tuple #[.slice o zs.length c, .int .i64 n, .int .i64 y]) ∧ Frame.HasStrs w' (.slice o zs.length c) zs ∧ Below w.heap.size w w'
theorem scb_of {r : List (List UInt8) × Nat × Int} {w : World} {e : Ending} {w' : World} (h : ScanIs r w e w') : ScB r.1 (r.2.1 : Int) r.2.2 w e w' := by
  obtain ⟨u, rfl, ⟨o, c, rfl, hd⟩, hb⟩ := h
  exact ⟨o, c, rfl, ⟨o, c, rfl, hd⟩, hb⟩
def RcB (zs : List (List UInt8)) (y : Int) (w : World) (e : Ending) (w' : World) : Prop := ∃ o c, e = .returned (.tuple #[.slice o zs.length c, .int .i64 y]) ∧ Frame.HasStrs w' (.slice o zs.length c) zs ∧ Below w.heap.size w w'
theorem rcb_of {r : List (List UInt8) × Int} {w : World} {e : Ending} {w' : World} (h : RecsIs r w e w') : RcB r.1 r.2 w e w' := by
  obtain ⟨u, rfl, ⟨o, c, rfl, hd⟩, hb⟩ := h
  exact ⟨o, c, rfl, ⟨o, c, rfl, hd⟩, hb⟩
set_option maxHeartbeats 8000000 in
set_option maxRecDepth 20000 in
theorem lives_any (w : World) : Calls Try.prog 15 #[] w fun e w' => e = .returned (.bool true) ∧ Below w.heap.size w w' := by
  have cm := fun W => (Disk.make_fn 26 W (by omega)).mono (fun e w' h => back_of h)
  have clo := fun W v (h : HasDk W v LD1) => long_any LD1 v W h sf1
  have cw1 := fun W v u (h : HasDk W v LD1) (g : Frame.HasStrs W u [[97], [98, 99]]) => (swrite_any LD1 v 1 5 0 [[97], [98, 99]] u W h sf1 g (by decide) (by decide) (by decide) (by decide) (by decide)).mono (fun e w' h => wrb_of h)
  have cw2 := fun W v u (h : HasDk W v LD2) (g : Frame.HasStrs W u [[100]]) => (swrite_any LD2 v 1 5 1 [[100]] u W h sf2 g (by decide) (by decide) (by decide) (by decide) (by decide)).mono (fun e w' h => wrb_of h)
  have cs1 := fun W v (h : HasDk W v LD3) => (scan_any LD3 v 1 5 W h sf3 (by decide) (by decide)).mono (fun e w' h => scb_of h)
  have ct1 := fun W v (h : HasDk W v LD3) => (take_any LD3 v 1 5 2 W h sf3 (by decide) (by decide) (by decide)).mono (fun e w' h => rcb_of h)
  have ct2 := fun W v (h : HasDk W v LD3) => (take_any LD3 v 1 5 4 W h sf3 (by decide) (by decide) (by decide)).mono (fun e w' h => rcb_of h)
  have cs2 := fun W v (h : HasDk W v LD3) => (scan_any LD3 v 1 6 W h sf3 (by decide) (by decide)).mono (fun e w' h => scb_of h)
  have cne := fun W u (g : Frame.HasStrs W u [List.replicate 106 0, [98]]) => need_any [List.replicate 106 0, [98]] u W g (by decide) (by decide)
  have cw3 := fun W v u (h : HasDk W v LD3) (g : Frame.HasStrs W u [List.replicate 200 0]) => (swrite_any LD3 v 1 5 2 [List.replicate 200 0] u W h sf3 g (by decide) (by decide) (by decide) (by decide) (by decide)).mono (fun e w' h => wrb_of h)
  rw [sl1] at cm
  rw [sl2] at clo
  rw [sl3] at cw1
  rw [sl4] at cw2
  rw [sl5] at cs1
  rw [sl6] at ct1
  rw [sl7] at ct2
  rw [sl8] at cs2
  rw [sl9] at cne
  rw [sl10] at cw3
  generalize (writeS LD3 1 5 2 [List.replicate 200 0]).1 = D4 at cw3
  generalize LD1 = D1 at *
  generalize LD2 = D2 at *
  generalize LD3 = D3 at *
  unfold Back at cm
  unfold LongIs at clo cne
  unfold WrB at cw1 cw2 cw3
  unfold ScB at cs1 cs2
  unfold RcB at ct1 ct2
  simp only [List.length_cons, List.length_nil, show 0 + 1 + 1 + 1 = 3 from rfl, show 0 + 1 + 1 = 2 from rfl, show ((0 : Nat) : Int) = 0 from rfl, show ((1 : Nat) : Int) = 1 from rfl, show ((2 : Nat) : Int) = 2 from rfl, show ((3 : Nat) : Int) = 3 from rfl, show ((5 : Nat) : Int) = 5 from rfl, show ((6 : Nat) : Int) = 6 from rfl] at cm clo cw1 cw2 cs1 ct1 ct2 cs2 cne cw3
  go_enter Try.func15, Try.ntmps15
  go_wp2_with fail
  go_at_call 22; refine (cm _).mono ?_; rintro e w1 ⟨so1, sc1, co1, cc1, rfl, hs1, hc1, hb⟩
  obtain ⟨X1, hX1⟩ : ∃ X, X = w1.alloc (.cells #[.slice so1 D1.secs.length sc1, .slice co1 D1.cache.length cc1, .int .i64 D1.fuse, .bool D1.off] 25) := ⟨_, rfl⟩
  have hB1 : Below w.heap.size w X1 := by rw [hX1]; exact hb.alloc hb.size _
  obtain ⟨b1, hbb1⟩ : ∃ b, b = w1.heap.size := ⟨_, rfl⟩
  have V1 : Hid (VDk X1 b1 D1) := by rw [hX1, hbb1]; exact VDk.new hs1 hc1
  have hbw : w.heap.size ≤ b1 := by rw [hbb1]; exact hb.size
  go_upto_region 2 with fail
  rw [← hX1, ← hbb1]
  clear hs1 hc1 hX1 hbb1 hb cm
  obtain ⟨so, sc, co, cc, vb, hs, hc⟩ := V1.out
  obtain ⟨q0, q1, q2, q3, qf⟩ := vb.cells
  go_wp2_with fail
  go_at_call 11; refine (clo _ _ ⟨_, _, rfl, hs, hc⟩).mono ?_; rintro e w2 ⟨rfl, hb⟩
  have V2 : Hid (VDk w2 b1 D1) := V1.out.below hb
  have hB2 : Below w.heap.size w w2 := below2 hB1 hb
  clear q0 q1 q2 q3 qf vb hs hc V1 hB1 hb clo
  go_upto_region 3 with fail
  obtain ⟨so, sc, co, cc, vb, hs, hc⟩ := V2.out
  obtain ⟨q0, q1, q2, q3, qf⟩ := vb.cells
  obtain ⟨Y, hY⟩ : ∃ Y, Y = w2.alloc (.cells #[.string ⟨#[97]⟩, .string ⟨#[98, 99]⟩] 9) := ⟨_, rfl⟩
  have hbY : Below w2.heap.size w2 Y := by rw [hY]; exact (Below.refl _ _).alloc (Nat.le_refl _) _
  have hlY : Frame.HasStrs Y (.slice (some ⟨w2.heap.size, 0, none⟩) 2 2) [[97], [98, 99]] := by rw [hY]; exact lit_has w2 [[97], [98, 99]]
  go_wp2_with fail
  rw [← hY]
  clear hY
  go_at_call 9; refine (cw1 _ _ _ ⟨_, _, rfl, hs.keep hbY, hc.keep hbY⟩ hlY).mono ?_; rintro e w3 ⟨s1, s2, s3, s4, rfl, hs3, hc3, hb⟩
  obtain ⟨X3, hX3⟩ : ∃ X, X = ((((w3.setCell ⟨b1, 0, none⟩ (.slice s1 D2.secs.length s2)).setCell ⟨b1, 1, none⟩ (.slice s3 D2.cache.length s4)).setCell ⟨b1, 2, none⟩ (.int .i64 D2.fuse)).setCell ⟨b1, 3, none⟩ (.bool D2.off)) := ⟨_, rfl⟩
  have V3 : Hid (VDk X3 b1 D2) := by rw [hX3]; exact (V2.out.below (below2 hbY hb)).store hs3 hc3
  have hB3 : Below w.heap.size w X3 := by rw [hX3]; exact set4_below (below2 hB2 (below2 hbY hb)) hbw _ _ _ _
  have vb3 := vb.below (below2 hbY hb)
  clear q0 q1 q2 q3 qf vb hs hc hs3 hc3 hb hbY hlY V2 hB2 cw1
  obtain ⟨q0, q1, q2, q3, qf⟩ := vb3.cells
  go_upto_region 4 with fail
  rw [← hX3]
  clear q0 q1 q2 q3 qf vb3 hX3
  obtain ⟨so, sc, co, cc, vb, hs, hc⟩ := V3.out
  obtain ⟨q0, q1, q2, q3, qf⟩ := vb.cells
  obtain ⟨Y, hY⟩ : ∃ Y, Y = X3.alloc (.cells #[.string ⟨#[100]⟩] 9) := ⟨_, rfl⟩
  have hbY : Below X3.heap.size X3 Y := by rw [hY]; exact (Below.refl _ _).alloc (Nat.le_refl _) _
  have hlY : Frame.HasStrs Y (.slice (some ⟨X3.heap.size, 0, none⟩) 1 1) [[100]] := by rw [hY]; exact lit_has X3 [[100]]
  go_wp2_with fail
  rw [← hY]
  clear hY
  go_at_call 9; refine (cw2 _ _ _ ⟨_, _, rfl, hs.keep hbY, hc.keep hbY⟩ hlY).mono ?_; rintro e w4 ⟨t1, t2, t3, t4, rfl, hs4, hc4, hb⟩
  obtain ⟨X4, hX4⟩ : ∃ X, X = ((((w4.setCell ⟨b1, 0, none⟩ (.slice t1 D3.secs.length t2)).setCell ⟨b1, 1, none⟩ (.slice t3 D3.cache.length t4)).setCell ⟨b1, 2, none⟩ (.int .i64 D3.fuse)).setCell ⟨b1, 3, none⟩ (.bool D3.off)) := ⟨_, rfl⟩
  have V4 : Hid (VDk X4 b1 D3) := by rw [hX4]; exact (V3.out.below (below2 hbY hb)).store hs4 hc4
  have hB4 : Below w.heap.size w X4 := by rw [hX4]; exact set4_below (below2 hB3 (below2 hbY hb)) hbw _ _ _ _
  have vb4 := vb.below (below2 hbY hb)
  clear q0 q1 q2 q3 qf vb hs hc hs4 hc4 hb hbY hlY V3 hB3 cw2
  obtain ⟨q0, q1, q2, q3, qf⟩ := vb4.cells
  go_upto_region 5 with fail
  rw [← hX4]
  clear q0 q1 q2 q3 qf vb4 hX4
  obtain ⟨so, sc, co, cc, vb, hs, hc⟩ := V4.out
  obtain ⟨q0, q1, q2, q3, qf⟩ := vb.cells
  go_wp2_with fail
  go_at_call 17; refine (cs1 _ _ ⟨_, _, rfl, hs, hc⟩).mono ?_; rintro e w5 ⟨lo, lc, rfl, hl5, hb⟩
  have V5 : Hid (VDk w5 b1 D3) := V4.out.below hb
  have HL5 : Hid (Frame.HasStrs w5 (.slice lo 3 lc) [[97], [98, 99], [100]]) := hl5
  have hB5 : Below w.heap.size w w5 := below2 hB4 hb
  clear q0 q1 q2 q3 qf vb hs hc V4 hB4 hb hl5 cs1
  go_upto_region 6 with fail
  obtain ⟨so, sc, co, cc, vb, hs, hc⟩ := V5.out
  obtain ⟨q0, q1, q2, q3, qf⟩ := vb.cells
  go_wp2_with fail
  go_at_call 19; refine (ct1 _ _ ⟨_, _, rfl, hs, hc⟩).mono ?_; rintro e w6 ⟨mo, mc, rfl, hm6, hb⟩
  have V6 : Hid (VDk w6 b1 D3) := V5.out.below hb
  have HL6 : Hid (Frame.HasStrs w6 (.slice lo 3 lc) [[97], [98, 99], [100]]) := HL5.out.keep hb
  have HM6 : Hid (Frame.HasStrs w6 (.slice mo 2 mc) [[97], [98, 99]]) := hm6
  have hB6 : Below w.heap.size w w6 := below2 hB5 hb
  clear q0 q1 q2 q3 qf vb hs hc V5 hB5 hb hm6 ct1 HL5
  go_upto_region 7 with fail
  obtain ⟨so, sc, co, cc, vb, hs, hc⟩ := V6.out
  obtain ⟨q0, q1, q2, q3, qf⟩ := vb.cells
  go_wp2_with fail
  go_at_call 19; refine (ct2 _ _ ⟨_, _, rfl, hs, hc⟩).mono ?_; rintro e w7 ⟨uo, uc, rfl, _, hb⟩
  have V7 : Hid (VDk w7 b1 D3) := V6.out.below hb
  have HL7 : Hid (Frame.HasStrs w7 (.slice lo 3 lc) [[97], [98, 99], [100]]) := HL6.out.keep hb
  have HM7 : Hid (Frame.HasStrs w7 (.slice mo 2 mc) [[97], [98, 99]]) := HM6.out.keep hb
  have hB7 : Below w.heap.size w w7 := below2 hB6 hb
  clear q0 q1 q2 q3 qf vb hs hc V6 hB6 hb ct2 HL6 HM6
  go_upto_region 8 with fail
  obtain ⟨so, sc, co, cc, vb, hs, hc⟩ := V7.out
  obtain ⟨q0, q1, q2, q3, qf⟩ := vb.cells
  go_wp2_with fail
  go_at_call 17; refine (cs2 _ _ ⟨_, _, rfl, hs, hc⟩).mono ?_; rintro e w8 ⟨ko, kc, rfl, _, hb⟩
  have V8 : Hid (VDk w8 b1 D3) := V7.out.below hb
  have HL8 : Hid (Frame.HasStrs w8 (.slice lo 3 lc) [[97], [98, 99], [100]]) := HL7.out.keep hb
  have HM8 : Hid (Frame.HasStrs w8 (.slice mo 2 mc) [[97], [98, 99]]) := HM7.out.keep hb
  have hB8 : Below w.heap.size w w8 := below2 hB7 hb
  clear q0 q1 q2 q3 qf vb hs hc V7 hB7 hb cs2 HL7 HM7
  go_upto_region 9 with fail
  obtain ⟨Z, hZ⟩ : ∃ Z : ByteArray, Z = ⟨(List.replicate 106 0).toArray⟩ := ⟨_, rfl⟩
  obtain ⟨A, hmk, hcv', hbA, hAs⟩ := mk_conv w8 106 (by decide)
  rw [← hZ] at hcv'
  have hcv := hcv' A (Below.refl _ _)
  clear hcv'
  rw [show ((106 : Nat) : Int) = 106 from rfl] at hmk
  obtain ⟨Y, hY⟩ : ∃ Y, Y = A.alloc (.cells #[.string Z, .string ⟨#[98]⟩] 9) := ⟨_, rfl⟩
  obtain ⟨ga, hga⟩ : ∃ g, g = A.heap.size := ⟨_, rfl⟩
  have hbY : Below w8.heap.size w8 Y := below2 hbA (by rw [hY]; exact (Below.refl _ _).alloc (Nat.le_refl _) _)
  have hlY : Frame.HasStrs Y (.slice (some ⟨ga, 0, none⟩) 2 2) [List.replicate 106 0, [98]] := by rw [hY, hZ, hga]; exact lit_has A [List.replicate 106 0, [98]]
  clear hZ hbA hAs
  go_wp2_with fail
  rw [← hY, ← hga]
  clear hY hga hmk hcv
  go_at_call 13; refine (cne _ _ hlY).mono ?_; rintro e w9 ⟨rfl, hb⟩
  have V9 : Hid (VDk w9 b1 D3) := V8.out.below (below2 hbY hb)
  have HL9 : Hid (Frame.HasStrs w9 (.slice lo 3 lc) [[97], [98, 99], [100]]) := HL8.out.keep (below2 hbY hb)
  have HM9 : Hid (Frame.HasStrs w9 (.slice mo 2 mc) [[97], [98, 99]]) := HM8.out.keep (below2 hbY hb)
  have hB9 : Below w.heap.size w w9 := below2 hB8 (below2 hbY hb)
  clear V8 hB8 hb cne HL8 HM8 hbY hlY
  go_upto_region 10 with fail
  obtain ⟨so, sc, co, cc, vb, hs, hc⟩ := V9.out
  obtain ⟨q0, q1, q2, q3, qf⟩ := vb.cells
  have hblt : b1 < w9.heap.size := vb.lt
  obtain ⟨L2, hL2⟩ : ∃ L, L = List.replicate 200 (0 : UInt8) := ⟨_, rfl⟩
  rw [← hL2] at cw3
  obtain ⟨Z, hZ⟩ : ∃ Z : ByteArray, Z = ⟨L2.toArray⟩ := ⟨_, rfl⟩
  have HB9 : Hid (Below w.heap.size w w9) := hB9
  have HSK : Hid (∀ W, Below w9.heap.size w9 W → W.cell? ⟨b1, 0, none⟩ = some (.slice so D3.secs.length sc) ∧ W.cell? ⟨b1, 1, none⟩ = some (.slice co D3.cache.length cc) ∧ W.cell? ⟨b1, 2, none⟩ = some (.int .i64 D3.fuse) ∧ W.cell? ⟨b1, 3, none⟩ = some (.bool D3.off)) := fun W hb => by
    obtain ⟨q0, q1, q2, q3, qf⟩ := (vb.below hb).cells
    exact ⟨q0, q1, q2, q3⟩
  have HDK : Hid (∀ W, Below w9.heap.size w9 W → HasDk W (.agg #[.slice so D3.secs.length sc, .slice co D3.cache.length cc, .int .i64 D3.fuse, .bool D3.off]) D3) := fun W hb => ⟨_, _, rfl, hs.keep hb, hc.keep hb⟩
  go_cut [22, 23] (fun n y wc => n = .int .i64 0 ∧ y = .int .i64 8 ∧ Below w9.heap.size w9 wc)
  case first =>
    obtain ⟨A, hmk, hcA, hbA, hAs⟩ := mk_conv w9.drew 200 (by decide)
    rw [← hL2, ← hZ] at hcA
    rw [show ((200 : Nat) : Int) = 200 from rfl, show w9.drew.heap.size = w9.heap.size from rfl] at hmk
    rw [show w9.drew.heap.size = w9.heap.size from rfl] at hcA hAs
    have hc1 := hcA A (Below.refl _ _)
    have hc2 := hcA (A.alloc (.cells #[.slice none 0 0, .slice none 0 0, .int .i64 0, .bool false] 25)) ((Below.refl _ _).alloc (Nat.le_refl _) _)
    have kA : Below w9.heap.size w9 A := below2 ((Below.refl _ _).drew) hbA
    obtain ⟨A2, hmk2, hcA2, hbA2, hAs2⟩ := mk_conv (w9.alloc (.cells #[.slice none 0 0, .slice none 0 0, .int .i64 0, .bool false] 25)).drew 200 (by decide)
    rw [← hL2, ← hZ] at hcA2
    have esz : (w9.alloc (.cells #[.slice none 0 0, .slice none 0 0, .int .i64 0, .bool false] 25)).drew.heap.size = w9.heap.size + 1 := by show (w9.alloc _).heap.size = _; simp
    rw [show ((200 : Nat) : Int) = 200 from rfl, esz] at hmk2
    rw [esz] at hcA2 hAs2
    have hc3 := hcA2 A2 (Below.refl _ _)
    have kA2 : Below w9.heap.size w9 A2 := below2 ((below_al (Below.refl _ _)).drew) hbA2
    have K1 : Hid (Below w9.heap.size w9 (A.alloc (.cells #[.string Z] 9)) ∧ Frame.HasStrs (A.alloc (.cells #[.string Z] 9)) (.slice (some ⟨w9.heap.size + 1, 0, none⟩) 1 1) [L2]) := ⟨below_al kA, by have := lit_has A [L2]; rw [hAs] at this; rw [hZ]; exact this⟩
    have K2 : Hid (Below w9.heap.size w9 ((A.alloc (.cells #[.string Z] 9)).alloc (.cells #[.slice none 0 0, .slice none 0 0, .int .i64 0, .bool false] 25)) ∧ Frame.HasStrs ((A.alloc (.cells #[.string Z] 9)).alloc (.cells #[.slice none 0 0, .slice none 0 0, .int .i64 0, .bool false] 25)) (.slice (some ⟨w9.heap.size + 1, 0, none⟩) 1 1) [L2] ∧ RBox ((A.alloc (.cells #[.string Z] 9)).alloc (.cells #[.slice none 0 0, .slice none 0 0, .int .i64 0, .bool false] 25)) (w9.heap.size + 1 + 1)) :=
      ⟨below_al K1.out.1, K1.out.2.keep ((Below.refl _ _).alloc (Nat.le_refl _) _), by have := World.alloc_heap_new (A.alloc (.cells #[.string Z] 9)) (.cells #[.slice none 0 0, .slice none 0 0, .int .i64 0, .bool false] 25); rw [World.size_alloc, hAs] at this; exact this⟩
    have K3 : Hid (Below w9.heap.size w9 ((A.alloc (.cells #[.slice none 0 0, .slice none 0 0, .int .i64 0, .bool false] 25)).alloc (.cells #[.string Z] 9)) ∧ Frame.HasStrs ((A.alloc (.cells #[.slice none 0 0, .slice none 0 0, .int .i64 0, .bool false] 25)).alloc (.cells #[.string Z] 9)) (.slice (some ⟨w9.heap.size + 1 + 1, 0, none⟩) 1 1) [L2] ∧ RBox ((A.alloc (.cells #[.slice none 0 0, .slice none 0 0, .int .i64 0, .bool false] 25)).alloc (.cells #[.string Z] 9)) (w9.heap.size + 1)) :=
      ⟨below_al (below_al kA), by have := lit_has (A.alloc (.cells #[.slice none 0 0, .slice none 0 0, .int .i64 0, .bool false] 25)) [L2]; rw [World.size_alloc, hAs] at this; rw [hZ]; exact this, by
        have h : RBox (A.alloc (.cells #[.slice none 0 0, .slice none 0 0, .int .i64 0, .bool false] 25)) A.heap.size := World.alloc_heap_new A (.cells #[.slice none 0 0, .slice none 0 0, .int .i64 0, .bool false] 25)
        rw [hAs] at h
        exact h.below ((Below.refl _ _).alloc (Nat.le_refl _) _)⟩
    have K4 : Hid (Below w9.heap.size w9 (A2.alloc (.cells #[.string Z] 9)) ∧ Frame.HasStrs (A2.alloc (.cells #[.string Z] 9)) (.slice (some ⟨w9.heap.size + 1 + 1, 0, none⟩) 1 1) [L2] ∧ RBox (A2.alloc (.cells #[.string Z] 9)) w9.heap.size) :=
      ⟨below_al kA2, by have := lit_has A2 [L2]; rw [hAs2] at this; rw [hZ]; exact this, by
        have h : RBox (w9.alloc (.cells #[.slice none 0 0, .slice none 0 0, .int .i64 0, .bool false] 25)) w9.heap.size := World.alloc_heap_new w9 (.cells #[.slice none 0 0, .slice none 0 0, .int .i64 0, .bool false] 25)
        exact ((h.below ((Below.refl _ _).drew)).below hbA2).below ((Below.refl _ _).alloc (Nat.le_refl _) _)⟩
    clear hL2 hZ hbA hbA2 hcA hcA2 esz
    have hbR : Below w9.heap.size w9 w9 := Below.refl _ _
    go_region_held (fun w' => w'.cell? ⟨b1, 0, none⟩ = some (.slice so D3.secs.length sc) ∧ w'.cell? ⟨b1, 1, none⟩ = some (.slice co D3.cache.length cc) ∧ w'.cell? ⟨b1, 2, none⟩ = some (.int .i64 D3.fuse) ∧ w'.cell? ⟨b1, 3, none⟩ = some (.bool D3.off))
      (first
        | (refine HSK.out _ ?_
           repeat' (first | with_reducible exact hbW | with_reducible exact kA | with_reducible exact kA2 | with_reducible exact hbR | with_reducible apply Below.drew | with_reducible apply below_al | (with_reducible refine Below.setCell ?_ ?_ _) | with_reducible exact Nat.le_refl _ | (simp; done) | (simp; omega) | (have := hbW.size; simp; omega)))
        | go_keep)
      (first
        | (go_at_call 9
           with_reducible refine (cw3 _ _ _ (HDK.out _ K1.out.1) K1.out.2).mono ?_
           rintro e w10 ⟨a1, a2, a3, a4, rfl, hs10, hc10, hb10⟩
           have hbW := below2 K1.out.1 hb10)
        | (go_at_call 9
           with_reducible refine (cw3 _ _ _ (HDK.out _ K2.out.1) K2.out.2.1).mono ?_
           rintro e w10 ⟨a1, a2, a3, a4, rfl, hs10, hc10, hb10⟩
           have hbW := below2 K2.out.1 hb10
           obtain ⟨z0, z1, z2, z3, zf⟩ := (K2.out.2.2.below hb10).cells)
        | (go_at_call 9
           with_reducible refine (cw3 _ _ _ (HDK.out _ K3.out.1) K3.out.2.1).mono ?_
           rintro e w10 ⟨a1, a2, a3, a4, rfl, hs10, hc10, hb10⟩
           have hbW := below2 K3.out.1 hb10
           obtain ⟨z0, z1, z2, z3, zf⟩ := (K3.out.2.2.below hb10).cells)
        | (go_at_call 9
           with_reducible refine (cw3 _ _ _ (HDK.out _ K4.out.1) K4.out.2.1).mono ?_
           rintro e w10 ⟨a1, a2, a3, a4, rfl, hs10, hc10, hb10⟩
           have hbW := below2 K4.out.1 hb10
           obtain ⟨z0, z1, z2, z3, zf⟩ := (K4.out.2.2.below hb10).cells))
    all_goals go_wp2_with fail
    all_goals go_meet
    all_goals first
      | exact ⟨rfl, rfl, below_al hbW⟩
      | exact ⟨rfl, rfl, set4_below hbW (by omega) _ _ _ _⟩
      | exact ⟨rfl, rfl, set4_below (below_al hbW) (by omega) _ _ _ _⟩
  case rest =>
    obtain ⟨rfl, rfl, hbc⟩ := hcut
    have HL10 : Hid (Frame.HasStrs wc (.slice lo 3 lc) [[97], [98, 99], [100]]) := HL9.out.keep hbc
    have HM10 : Hid (Frame.HasStrs wc (.slice mo 2 mc) [[97], [98, 99]]) := HM9.out.keep hbc
    have hBc : Below w.heap.size w wc := below2 HB9.out hbc
    clear q0 q1 q2 q3 qf vb hs hc HSK HDK HL9 HM9 HB9 hB9 hbc cw3 hZ hL2 V9 hblt
    obtain ⟨Y, hY⟩ : ∃ Y, Y = wc.alloc (.cells #[.string ⟨#[97]⟩, .string ⟨#[98, 99]⟩, .string ⟨#[100]⟩] 9) := ⟨_, rfl⟩
    have hbY : Below wc.heap.size wc Y := by rw [hY]; exact (Below.refl _ _).alloc (Nat.le_refl _) _
    have hlY : Frame.HasStrs Y (.slice (some ⟨wc.heap.size, 0, none⟩) 3 3) [[97], [98, 99], [100]] := by rw [hY]; exact lit_has wc [[97], [98, 99], [100]]
    go_wp2_with fail
    rw [← hY]
    clear hY
    go_at_call 21; refine (Frame.same_any _ _ [[97], [98, 99], [100]] _ (HL10.out.keep hbY) hlY (by decide)).mono ?_; rintro e w11 ⟨rfl, hb11⟩
    have HM11 : Hid (Frame.HasStrs w11 (.slice mo 2 mc) [[97], [98, 99]]) := HM10.out.keep (below2 hbY hb11)
    have hB11 : Below w.heap.size w w11 := below2 hBc (below2 hbY hb11)
    clear hbY hlY hb11 HL10 HM10 hBc
    obtain ⟨Y, hY⟩ : ∃ Y, Y = w11.alloc (.cells #[.string ⟨#[97]⟩, .string ⟨#[98, 99]⟩] 9) := ⟨_, rfl⟩
    have hbY : Below w11.heap.size w11 Y := by rw [hY]; exact (Below.refl _ _).alloc (Nat.le_refl _) _
    have hlY : Frame.HasStrs Y (.slice (some ⟨w11.heap.size, 0, none⟩) 2 2) [[97], [98, 99]] := by rw [hY]; exact lit_has w11 [[97], [98, 99]]
    go_wp2_with fail
    rw [← hY]
    clear hY
    go_at_call 21; refine (Frame.same_any _ _ [[97], [98, 99]] _ (HM11.out.keep hbY) hlY (by decide)).mono ?_; rintro e w12 ⟨rfl, hb12⟩
    have hB12 : Below w.heap.size w w12 := below2 hB11 (below2 hbY hb12)
    clear hbY hlY hb12 HM11 hB11
    go_wp2_with fail
    go_ret
    exact ⟨rfl, hB12⟩
end Go.Proofs.Ytbikcpchlgmoaaa.Seg
namespace Go.Proofs.Ytbikcpchlgmoaaa
namespace segmentReads
open Go.ChangeShapes Go.WideShapes Go.ChangeAt Go.RowKit
open Go.ChangeMaps (open_string shut_string)
open Go.Proofs.Ytbikcpchlgmoaaa.Seg
open Go.Proofs.Ytbikcpchlgmoaaa.Frame (allL allL_le takeL nextL nextL_lt)
open Go.Proofs.Ytbikcpchlgmoaaa.Disk (VDk Dk HasDk Fits VBox HasStrs HasPuts below2)

theorem own : ownKnob Try.prog.godebug = none := by kernel_rfl
theorem laidOut : laidOutB Try.prog = true := by kernel_rfl
theorem takeL_many (n : Nat) : ∀ l : List UInt8, (takeL n l).1.length ≤ l.length := by
  induction n with
  | zero => intro l; simp [takeL]
  | succ n ih =>
    intro l
    rw [takeL]
    by_cases h : (nextL l).2.2 = 0
    · rw [if_pos h]
      have h1 := (nextL_lt (l := l) (p := (nextL l).1) (r := (nextL l).2.1) (by rw [← h])).2
      have h2 := ih (nextL l).2.1
      by_cases h3 : (takeL n (nextL l).2.1).2.2 = 0
      · rw [if_pos h3]; simp only [List.length_cons]; omega
      · rw [if_neg h3]; simp
    · rw [if_neg h]; simp
theorem scan_few (d : Dk) (s : Int) (t : Nat) : (scanD d s t).1.length ≤ 1000000000 := by
  have h1 := text_len d s t
  have h2 := (allL_le _ (textD d s t).1 (Nat.le_refl _)).2
  unfold scanD
  split
  · show (allL (textD d s t).1).1.length ≤ _; omega
  · simp
theorem take_few (d : Dk) (s : Int) (t : Nat) (m : Int) : (takeD d s t m).1.length ≤ 1000000000 := by
  have h1 := text_len d s t
  have h2 : (tookL m (textD d s t).1).1.length ≤ (textD d s t).1.length := by
    unfold tookL
    split
    · simp
    · exact takeL_many _ _
  unfold takeD
  split
  · split
    · show (tookL m (textD d s t).1).1.length ≤ _; omega
    · split <;> simp
  · simp
set_option maxHeartbeats 8000000 in
set_option maxRecDepth 20000 in
theorem core (D0 : Dk) (zs xs : List (List UInt8)) (n y1 y2 s many t : Int) (so co : Option Addr) (sc cc : Nat) (w : World) (hs0 : HasStrs w (.slice so D0.secs.length sc) D0.secs) (hc0 : HasPuts w (.slice co D0.cache.length cc) D0.cache)
    (c1 : ∀ W v, HasDk W v D0 → Calls Try.prog 17 #[v, .int .i64 s, .int .u64 t] W (ScB zs n y1 W))
    (c2 : ∀ W v, HasDk W v D0 → Calls Try.prog 18 #[v, .int .i64 s, .int .u64 t] W (ScB zs n y1 W))
    (c3 : ∀ W v, HasDk W v D0 → Calls Try.prog 19 #[v, .int .i64 s, .int .u64 t, .int .i64 many] W (RcB xs y2 W))
    (c4 : ∀ W v, HasDk W v D0 → Calls Try.prog 20 #[v, .int .i64 s, .int .u64 t, .int .i64 many] W (RcB xs y2 W))
    (d1 : ∀ W v u, Frame.HasStrs W v zs → Frame.HasStrs W u zs → Calls Try.prog 21 #[v, u] W fun e w' => e = .returned (.bool true) ∧ Below W.heap.size W w')
    (d2 : ∀ W v u, Frame.HasStrs W v xs → Frame.HasStrs W u xs → Calls Try.prog 21 #[v, u] W fun e w' => e = .returned (.bool true) ∧ Below W.heap.size W w') :
    Calls Try.prog 4 #[.agg #[.slice so D0.secs.length sc, .slice co D0.cache.length cc, .int .i64 D0.fuse, .bool D0.off], .int .i64 s, .int .u64 t, .int .i64 many] w fun e w' => e = .returned (.bool true) ∧ Below w.heap.size w w' := by
  unfold ScB at c1 c2
  unfold RcB at c3 c4
  have hv := lives_any
  obtain ⟨X, hX⟩ : ∃ X, X = w.alloc (.cells #[.slice so D0.secs.length sc, .slice co D0.cache.length cc, .int .i64 D0.fuse, .bool D0.off] 25) := ⟨_, rfl⟩
  have hW : Below w.heap.size w X := by rw [hX]; exact (Below.refl _ w).alloc (Nat.le_refl _) _
  have V0 : Hid (VDk X w.heap.size D0) := by rw [hX]; exact VDk.new hs0 hc0
  clear hs0 hc0
  go_enter Try.func4, Try.ntmps4
  go_upto_region 1 with fail
  rw [← hX]
  clear hX
  obtain ⟨s1, s2, s3, s4, vb, hs, hc⟩ := V0.out
  obtain ⟨q0, q1, q2, q3, qf⟩ := vb.cells
  go_wp2_with fail
  go_at_call 17; refine (c1 _ _ ⟨_, _, rfl, hs, hc⟩).mono ?_; rintro e w1 ⟨ao, ac, rfl, ha, hb⟩
  have V0 : Hid (VDk w1 w.heap.size D0) := V0.out.below hb
  have hW := below2 hW hb
  clear hb hs hc vb q0 q1 q2 q3 qf c1
  go_upto_region 2 with fail
  obtain ⟨s1, s2, s3, s4, vb, hs, hc⟩ := V0.out
  obtain ⟨q0, q1, q2, q3, qf⟩ := vb.cells
  go_wp2_with fail
  go_at_call 18; refine (c2 _ _ ⟨_, _, rfl, hs, hc⟩).mono ?_; rintro e w2 ⟨bo, bc, rfl, hbs, hb⟩
  have V0 : Hid (VDk w2 w.heap.size D0) := V0.out.below hb
  have ha := ha.keep hb
  have hW := below2 hW hb
  clear hb hs hc vb q0 q1 q2 q3 qf c2
  go_upto_region 3 with fail
  obtain ⟨s1, s2, s3, s4, vb, hs, hc⟩ := V0.out
  obtain ⟨q0, q1, q2, q3, qf⟩ := vb.cells
  go_wp2_with fail
  go_at_call 19; refine (c3 _ _ ⟨_, _, rfl, hs, hc⟩).mono ?_; rintro e w3 ⟨xo, xc, rfl, hx, hb⟩
  have V0 : Hid (VDk w3 w.heap.size D0) := V0.out.below hb
  have ha := ha.keep hb
  have hbs := hbs.keep hb
  have hW := below2 hW hb
  clear hb hs hc vb q0 q1 q2 q3 qf c3
  go_upto_region 4 with fail
  obtain ⟨s1, s2, s3, s4, vb, hs, hc⟩ := V0.out
  obtain ⟨q0, q1, q2, q3, qf⟩ := vb.cells
  go_wp2_with fail
  go_at_call 20; refine (c4 _ _ ⟨_, _, rfl, hs, hc⟩).mono ?_; rintro e w4 ⟨yo, yc, rfl, hy, hb⟩
  have ha := ha.keep hb
  have hbs := hbs.keep hb
  have hx := hx.keep hb
  have hW := below2 hW hb
  clear hb hs hc vb q0 q1 q2 q3 qf c4 V0
  go_wp2_with fail
  go_at_call 15; refine (hv _).mono ?_; rintro e w5 ⟨rfl, hb⟩
  have ha := ha.keep hb
  have hbs := hbs.keep hb
  have hx := hx.keep hb
  have hy := hy.keep hb
  have hW := below2 hW hb
  clear hb hv
  go_wp2_with fail
  go_at_call 21; refine (d1 _ _ _ ha hbs).mono ?_; rintro e w6 ⟨rfl, hb⟩
  have hx := hx.keep hb
  have hy := hy.keep hb
  have hW := below2 hW hb
  clear hb d1 ha hbs
  go_wp2_with fail
  go_at_call 21; refine (d2 _ _ _ hx hy).mono ?_; rintro e w7 ⟨rfl, hb⟩
  have hW := below2 hW hb
  clear hb d2 hx hy
  go_wp2
  go_ret
  exact ⟨rfl, hW⟩
theorem walk (v0 : Value) (D0 : Dk) (a1 a2 a3 : Int) (w : World) (b0 : HasDk w v0 D0) (f0 : Fits D0) (b1 : -9223372036854775808 ≤ a1 ∧ a1 ≤ 9223372036854775807) (b2 : 0 ≤ a2 ∧ a2 ≤ 18446744073709551615) (b3 : -9223372036854775808 ≤ a3 ∧ a3 ≤ 9223372036854775807) :
    Calls Try.prog 4 #[v0, .int .i64 a1, .int .u64 a2, .int .i64 a3] w fun e w' => e = .returned (.bool true) ∧ Below w.heap.size w w' := by
  obtain ⟨so, sc, co, cc, rfl, hs, hc⟩ := b0.parts
  obtain ⟨t, rfl⟩ := Int.eq_ofNat_of_zero_le b2.1
  have ht : t < 18446744073709551616 := by omega
  exact core D0 (scanD D0 a1 t).1 (takeD D0 a1 t a3).1 ((scanD D0 a1 t).2.1 : Int) (scanD D0 a1 t).2.2 (takeD D0 a1 t a3).2 a1 a3 (t : Int) so co sc cc w hs hc
    (fun W v h => (scan_any D0 v a1 t W h f0 b1 ht).mono (fun e w' h => scb_of h)) (fun W v h => (rscan_any D0 v a1 t W h f0 b1 ht).mono (fun e w' h => scb_of h))
    (fun W v h => (take_any D0 v a1 t a3 W h f0 b1 ht b3).mono (fun e w' h => rcb_of h)) (fun W v h => (rtake_any D0 v a1 t a3 W h f0 b1 ht b3).mono (fun e w' h => rcb_of h))
    (fun W v u h g => Frame.same_any v u _ W h g (scan_few D0 a1 t)) (fun W v u h g => Frame.same_any v u _ W h g (take_few D0 a1 t a3))

set_option maxRecDepth 100000 in
theorem lifted (os : Os) (started : os.Started) (H : Type) (enc : TypeId × Value → H) :
    ReturnsInHanded {} Try.checked os 4 .any (Rows.segmentReadsSpec.pre6 enc Try.prog Try.f4 Rows.segmentReadsRow.domain false) (Rows.segmentReadsSpec.post enc Try.prog Try.f4 false true false false) := by
  refine returnsInHanded_of_change_sized (C := Try.checked) own started (by kernel_rfl) Try.func4
    (ChangeSpec.witness6 (enc := enc) (C := Try.checked) false ⟨#[], #[.agg #[.slice none 0 0, .slice none 0 0, .int .i64 0, .bool false], .int .i64 0, .int .u64 0, .int .i64 0], []⟩ 8 (by kernel_rfl) (by kernel_rfl) (by kernel_rfl) (by kernel_rfl)) ?_
  intro W base args ds gs before hval0 hW _ hsz0 _
  have hsz : (DataW.weightsEach Try.prog (Try.f4.params.toList ++ Rows.segmentReadsSpec.plain.varTypes Try.prog) (ds ++ gs)).all (· ≤ reachBytes) = true := hsz0
  clear hsz0
  have hval : ∀ (j : Nat) t v, Try.f4.params[j]? = some t → args[j]? = some v → Value.okWide Try.prog W .any base t v := hval0
  have hW' := hW
  obtain ⟨p, q, hA0, hV, rfl, hfz, hnd⟩ := hW
  have hA : DataW.TrodAll enc Try.prog W 0 (fun _ => true) true Try.f4.params.toList args.toList ds p := hA0
  rw [Try.params4] at hA hval hsz
  obtain ⟨v0, vs0, d0, ds0, p0, q0, hargs, rfl, rfl, h0, r0⟩ := trodAll_cons hA
  obtain ⟨v1, vs1, d1, ds1, p1, q1, rfl, rfl, rfl, h1, r1⟩ := trodAll_cons r0
  obtain ⟨v2, vs2, d2, ds2, p2, q2, rfl, rfl, rfl, h2, r2⟩ := trodAll_cons r1
  obtain ⟨v3, vs3, d3, ds3, p3, q3, rfl, rfl, rfl, h3, r3⟩ := trodAll_cons r2
  obtain ⟨rfl, rfl, rfl⟩ := trodAll_nil r3
  obtain rfl : args = #[v0, v1, v2, v3] := by cases args; simp_all
  obtain ⟨rfl, rfl⟩ := trodVars_none hV
  have k0 := h0
  have lt0 : ∀ x ∈ p0, x.block < W.heap.size := by obtain ⟨m, hm⟩ := k0; exact DataW.trod_lt m _ _ _ hm
  obtain ⟨D0, b0, f0⟩ := Disk.open_disk (hval 0 25 v0 rfl rfl) h0
  obtain ⟨a1, rfl, rfl, rfl, w1⟩ := open_int Try.underlying3 (hval 1 3 v1 rfl rfl) h1
  have b1 : -9223372036854775808 ≤ a1 ∧ a1 ≤ 9223372036854775807 := by simpa [Lit.wf, IntKind.min, IntKind.max, IntKind.signed, IntKind.bits] using w1
  obtain ⟨a2, rfl, rfl, rfl, w2⟩ := open_int Try.underlying26 (hval 2 26 v2 rfl rfl) h2
  have b2 : 0 ≤ a2 ∧ a2 ≤ 18446744073709551615 := by simpa [Lit.wf, IntKind.min, IntKind.max, IntKind.signed, IntKind.bits] using w2
  obtain ⟨a3, rfl, rfl, rfl, w3⟩ := open_int Try.underlying3 (hval 3 3 v3 rfl rfl) h3
  have b3 : -9223372036854775808 ≤ a3 ∧ a3 ≤ 9223372036854775807 := by simpa [Lit.wf, IntKind.min, IntKind.max, IntKind.signed, IntKind.bits] using w3
  clear hA0 hval0
  refine (walk v0 D0 a1 a2 a3 W b0 f0 b1 b2 b3).mono fun e W' ⟨he, bel⟩ => ?_
  subst he
  exact ⟨_, rfl, _, _, _, [], _, [], hW', trodAll_mk1 (shut_bool Try.underlying4 _), (trodAll_cons_mk (Below.trod laidOut (by kernel_rfl) (of_decide_eq_true (by kernel_rfl)) k0 bel lt0) (trodAll_cons_mk (shut_int Try.underlying3 w1) (trodAll_cons_mk (shut_int Try.underlying26 w2) (trodAll_cons_mk (shut_int Try.underlying3 w3) trodAll_mk0)))), rfl, bel.frame _, fun h => by cases h⟩

theorem over : Rows.segmentReadsRow.holds Try.pinned (OpenSpec.ofChange Rows.segmentReadsSpec) :=
  OpenClaim.holds_of_wide 4 Try.f4 rfl rfl rfl rfl rfl rfl rfl ⟨rfl, rfl, rfl, rfl, rfl⟩ rfl rfl rfl rfl rfl (by kernel_rfl) Try.func4 (by kernel_rfl)
    (of_decide_eq_true (by kernel_rfl)) (by unfold Func.isWrapper; first | (rw [if_pos (by decide +kernel)]; kernel_rfl) | (rw [if_neg (by decide +kernel)]; exact ⟨rfl, rfl⟩))
    (fun os started H enc _ => lifted os started H enc)
end segmentReads
theorem sreads_holds : Rows.SegmentReadsSaid := segmentReads.over
#print axioms sreads_holds
end Go.Proofs.Ytbikcpchlgmoaaa
