/- What disk.Crash and disk.Held return, for every disk. -/
import Derived.Test.YtoigogjklhahkaaDiskFns
import Derived.Laws.EntriesVeiled
set_option linter.unusedVariables false
namespace Go.Proofs.Ytoigogjklhahkaa.Disk
open Go.RowKit Go.Shelf

theorem keep_box {W W' : World} {v : Value} {keep : List Bool} {B : Nat} (h : HasRow W v 1 keep.length (keep.map Value.bool)) (hlt : ∀ b i m cap, v = .slice (some ⟨b, i, none⟩) m cap → 0 < keep.length → b < B) (hg : W.grownBy W' (some B)) : HasRow W' v 1 keep.length (keep.map Value.bool) :=
  HasRow.far h hg (fun b i m cap e hn => by have := hlt b i m cap e hn; omega)
theorem row_lt {W : World} {v : Value} {sz n : Nat} {cs : List Value} (h : HasRow W v sz n cs) {b i m cap : Nat} (e : v = .slice (some ⟨b, i, none⟩) m cap) (hn : 0 < n) : b < W.heap.size := by
  subst e
  obtain ⟨_, b', i', e, hb, _⟩ := HasRow.at h hn
  injection e with e; injection e with e1 e2; omega
set_option maxHeartbeats 2000000 in
theorem crash_fn (d : Dk) (v kv : Value) (keep : List Bool) (torn bytes : Int) (w : World) (h : HasDk w v d) (hf : Fits d) (hk : HasRow w kv 1 keep.length (keep.map Value.bool)) (ht : -9223372036854775808 ≤ torn ∧ torn ≤ 9223372036854775807) (hbt : -9223372036854775808 ≤ bytes ∧ bytes ≤ 9223372036854775807) :
    Calls Try.prog 9 #[v, kv, .int .i64 torn, .int .i64 bytes] w (DiskIs (outD d (crashD d keep torn bytes)) w) := by
  obtain ⟨s, c, rfl, hs, hc⟩ := h
  obtain ⟨X1, hX1⟩ : ∃ X, X = w.alloc (.cells #[s, c, .int .i64 d.fuse, .bool d.off] 30) := ⟨_, rfl⟩
  have z1 : X1.heap.size = w.heap.size + 1 := by rw [hX1]; simp
  obtain ⟨X2, hX2⟩ : ∃ X, X = X1.alloc (.cells #[kv] 23) := ⟨_, rfl⟩
  have z2 : X2.heap.size = w.heap.size + 1 + 1 := by rw [hX2]; simp; omega
  obtain ⟨X3, hX3⟩ : ∃ X, X = X2.alloc (.cells #[.int .i64 torn] 3) := ⟨_, rfl⟩
  have z3 : X3.heap.size = w.heap.size + 1 + 1 + 1 := by rw [hX3]; simp; omega
  obtain ⟨X4, hX4⟩ : ∃ X, X = X3.alloc (.cells #[.int .i64 bytes] 3) := ⟨_, rfl⟩
  have z4 : X4.heap.size = w.heap.size + 1 + 1 + 1 + 1 := by rw [hX4]; simp; omega
  obtain ⟨X5, hX5⟩ : ∃ W0, W0 = X4.alloc (.cells #[.slice none 0 0, .slice none 0 0, .int .i64 0, .bool false] 30) := ⟨_, rfl⟩
  have z5 : X5.heap.size = w.heap.size + 1 + 1 + 1 + 1 + 1 := by rw [hX5]; simp; omega
  obtain ⟨W0, hW0⟩ : ∃ W0, W0 = X5.alloc (.cells #[.func (.func 24) #[] #[.pointer (some ⟨w.heap.size + 1 + 1, 0, none⟩), .pointer (some ⟨w.heap.size + 1 + 1 + 1, 0, none⟩), .pointer (some ⟨w.heap.size + 1, 0, none⟩)]] 57) := ⟨_, rfl⟩
  have z6 : W0.heap.size = w.heap.size + 1 + 1 + 1 + 1 + 1 + 1 := by rw [hW0]; simp; omega
  have b1 : Below w.heap.size w X1 := by rw [hX1]; exact (Below.refl _ w).alloc (Nat.le_refl _) _
  have b2 : Below w.heap.size w X2 := by rw [hX2]; exact b1.alloc (by omega) _
  have b3 : Below w.heap.size w X3 := by rw [hX3]; exact b2.alloc (by omega) _
  have b4 : Below w.heap.size w X4 := by rw [hX4]; exact b3.alloc (by omega) _
  have b5 : Below w.heap.size w X5 := by rw [hX5]; exact b4.alloc (by omega) _
  have hB0 : Below w.heap.size w W0 := by rw [hW0]; exact b5.alloc (by omega) _
  have hR0 : RBox W0 (w.heap.size + 1 + 1 + 1 + 1) := by
    rw [hW0]
    have : RBox X5 (w.heap.size + 1 + 1 + 1 + 1) := by rw [hX5, ← z4]; exact heap_alloc_new _ _
    exact this.below ((Below.refl _ _).alloc (Nat.le_refl _) _)
  have k1 : W0.cell? ⟨w.heap.size + 1, 0, none⟩ = some kv := by
    rw [hW0, alloc_far (by omega), hX5, alloc_far (by omega), hX4, alloc_far (by omega), hX3, alloc_far (by omega), hX2, ← z1]; exact alloc_cell _ _ _
  have k2 : W0.cell? ⟨w.heap.size + 1 + 1, 0, none⟩ = some (.int .i64 torn) := by
    rw [hW0, alloc_far (by omega), hX5, alloc_far (by omega), hX4, alloc_far (by omega), hX3, ← z2]; exact alloc_cell _ _ _
  have k3 : W0.cell? ⟨w.heap.size + 1 + 1 + 1, 0, none⟩ = some (.int .i64 bytes) := by
    rw [hW0, alloc_far (by omega), hX5, alloc_far (by omega), hX4, ← z3]; exact alloc_cell _ _ _
  have k5 : W0.cell? ⟨w.heap.size + 1 + 1 + 1 + 1 + 1, 0, none⟩ = some (.func (.func 24) #[] #[.pointer (some ⟨w.heap.size + 1 + 1, 0, none⟩), .pointer (some ⟨w.heap.size + 1 + 1 + 1, 0, none⟩), .pointer (some ⟨w.heap.size + 1, 0, none⟩)]) := by
    rw [hW0, ← z5]; exact alloc_cell _ _ _
  have cd := does_any 25 #[.pointer (some ⟨w.heap.size + 1 + 1 + 1 + 1 + 1, 0, none⟩)] enters47 d (.agg #[s, c, .int .i64 d.fuse, .bool d.off]) W0 ⟨s, c, rfl, hs.keep hB0, hc.keep hB0⟩ hf (crashD d keep torn bytes) (fun hok => settle_small (ok_of hok) _ (partN_le keep torn bytes) _ _)
    (fun hok W B hb hBs hin => crash2_any B (w.heap.size + 1 + 1) (w.heap.size + 1 + 1 + 1) (w.heap.size + 1) (w.heap.size + 1 + 1 + 1 + 1 + 1) d keep torn bytes W hin (ok_of hok) hbt (((bcell hb).1 _ _ (by omega)).trans k5)
      (fun W' hg => ⟨(gcell hg _ _ (by have := hb.size; omega) (by simp; omega)).trans (((bcell hb).1 _ _ (by omega)).trans k2), (gcell hg _ _ (by have := hb.size; omega) (by simp; omega)).trans (((bcell hb).1 _ _ (by omega)).trans k3),
        ⟨kv, (gcell hg _ _ (by have := hb.size; omega) (by simp; omega)).trans (((bcell hb).1 _ _ (by omega)).trans k1), keep_box ((hk.keep' hB0).keep' hb) (fun b i m cap e hn => by have := row_lt hk e hn; omega) hg⟩⟩))
  have hsz : w.heap.size ≤ W0.heap.size := hB0.size
  obtain ⟨so, sc, rfl, _, _⟩ := HasRow.slice hs
  obtain ⟨co, cc, rfl, _, _⟩ := HasRow.slice hc
  obtain ⟨ko, kc, rfl, hkn, hkm⟩ := HasRow.slice hk
  rw [hX5, hX4, hX3, hX2, hX1] at hW0
  clear hs hc hf hX5 hX4 hX3 hX2 hX1 z1 z2 z3 z4 z5 k1 k2 k3 k5 b1 b2 b3 b4 b5 X1 X2 X3 X4 X5 hk
  generalize outD d (crashD d keep torn bytes) = r at cd ⊢
  unfold DiskIs at cd
  go_enter Try.func9, Try.ntmps9
  go_wp2_with fail
  rw [← hW0]
  go_at_call 19; refine cd.mono ?_; rintro e w1 ⟨u, rfl, ⟨s1, c1, rfl, hs1, hc1⟩, hb⟩
  have hR1 := hR0.below hb
  obtain ⟨q0, q1, q2, q3, qf⟩ := hR1.cells
  have HNS : Hid (∀ x z, w1.cell? ⟨w.heap.size + 1 + 1 + 1 + 1, x, none⟩ ≠ some (.string z)) := hR1.nostr
  have hbz := below2 hB0 hb
  have HH : Hid (HasStrs w1 s1 r.1.secs ∧ HasPuts w1 c1 r.1.cache) := ⟨hs1, hc1⟩
  obtain ⟨so1, sc1, rfl, _, _⟩ := HasRow.slice hs1
  obtain ⟨co1, cc1, rfl, _, _⟩ := HasRow.slice hc1
  clear hs1 hc1 cd hW0 hR0 hR1
  go_wp2
  (try simp only [Exit.inBlock, Exit.then])
  refine bodyPost_ret (v := .tuple #[.agg #[.slice so1 r.1.secs.length sc1, .slice co1 r.1.cache.length cc1, .int .i64 r.1.fuse, .bool r.1.off], .int .i64 r.2]) ?_ rfl ⟨_, rfl, ⟨_, _, rfl, HH.out.1.box HNS.out (set4_grown _ _ _ _ _ _), HH.out.2.box HNS.out (set4_grown _ _ _ _ _ _)⟩, set4_below hbz (by omega) _ _ _ _⟩
  rw [results_cell_tmp rfl]
  go_simp

/-- what all sectors hold -/
def heldD (d : Dk) : List (List UInt8) × Int := if okB d then (settleF wholeF 0 d.secs d.cache, 0) else ([], 2)
def StrsIs (r : List (List UInt8) × Int) (w : World) (e : Ending) (w' : World) : Prop := ∃ u, e = .returned (.tuple #[u, .int .i64 r.2]) ∧ HasStrs w' u r.1 ∧ Below w.heap.size w w'
set_option maxHeartbeats 2000000 in
theorem held_fn (d : Dk) (v : Value) (w : World) (h : HasDk w v d) (hf : Fits d) : Calls Try.prog 10 #[v] w (StrsIs (heldD d) w) := by
  have cchk := fun W (hb : Below w.heap.size w W) => check_any d v W (h.keep hb) hf
  obtain ⟨s, c, rfl, hs, hc⟩ := h
  obtain ⟨so, sc, rfl, hs1, hs2⟩ := HasRow.slice hs
  obtain ⟨co, cc, rfl, hc1, hc2⟩ := HasRow.slice hc
  have HSC : Hid (HasStrs w (.slice so d.secs.length sc) d.secs ∧ HasPuts w (.slice co d.cache.length cc) d.cache) := ⟨hs, hc⟩
  have hB0 : ∀ o, Below w.heap.size w (w.alloc o) := fun o => (Below.refl _ w).alloc (Nat.le_refl _) o
  clear hs hc hf
  cases hok : okB d with
  | false =>
    have HO : Hid (heldD d = ([], 2)) := by show _ = _; unfold heldD; rw [hok]; rfl
    rw [checkE_bad hok] at cchk
    clear hok
    go_enter Try.func10, Try.ntmps10
    go_wp2_with fail
    go_at_call 27; refine (cchk _ (hB0 _)).mono ?_; rintro e w1 ⟨rfl, hb⟩
    go_wp2
    go_ret2
    exact ⟨_, by rw [HO.out]; rfl, by rw [HO.out]; exact hasRow_nil _ _, below2 (hB0 _) hb⟩
  | true =>
    have HO : Hid (heldD d = (settleF wholeF 0 d.secs d.cache, 0)) := by show _ = _; unfold heldD; rw [hok]; rfl
    have HK : Hid (Ok d) := ok_of hok
    rw [checkE_ok hok] at cchk
    clear hok
    go_enter Try.func10, Try.ntmps10
    go_wp2_with fail
    go_at_call 27; refine (cchk _ (hB0 _)).mono ?_; rintro e w1 ⟨rfl, hb⟩
    have hbw := below2 (hB0 _) hb
    have hP1 : ∀ k, w1.cell? ⟨w.heap.size, k, none⟩ = #[Value.slice so d.secs.length sc, .slice co d.cache.length cc, .int .i64 d.fuse, .bool d.off][k]? := fun k => by
      rw [(bcell hb).1 _ _ (by simp)]
      simp only [World.cell?, heap_alloc_new]
      exact if_neg (by simp)
    have k0 := hP1 0
    have k1 := hP1 1
    have k2 := hP1 2
    have k3 := hP1 3
    simp only [List.getElem?_toArray, List.getElem?_cons_zero, List.getElem?_cons_succ] at k0 k1 k2 k3
    clear hP1
    obtain ⟨W1, hW1⟩ : ∃ W1, W1 = w1.alloc (.cells #[.slice so d.secs.length sc, .slice co d.cache.length cc, .int .i64 d.fuse, .bool d.off] 60) := ⟨_, rfl⟩
    have hbW : Below w.heap.size w W1 := by rw [hW1]; exact hbw.alloc hbw.size _
    have hbx : Box W1 w1.heap.size (.slice so d.secs.length sc) (.slice co d.cache.length cc) d.fuse d.off := by rw [hW1]; exact heap_alloc_new _ _
    have cst := settle_whole w1.heap.size _ _ d W1 hbx (HSC.out.1.keep hbW) (HSC.out.2.keep hbW) HK.out
    go_wp2_with fail
    rw [← hW1]
    go_at_call 26; refine cst.mono ?_; rintro e w2 ⟨s', rfl, hb6, hs6, hg6⟩
    have hbz : Below w.heap.size w w2 := grown_below hbW hg6 hbw.size
    obtain ⟨so2, sc2, rfl, _, _⟩ := HasRow.slice hs6
    have cc := copied_any _ _ w2 hs6 (by rw [settleF_len]; exact HK.out.many) (fun z hz => by rw [settleF_all wholeF (fun _ => Nat.le_refl _) d.cache 0 d.secs HK.out.whole HK.out.puts z hz]; omega)
    obtain ⟨q0, _⟩ := hb6.cells
    clear hW1 cst
    go_wp2_with fail
    go_at_call 17; refine cc.mono ?_; rintro e w3 ⟨u, rfl, ho3, hb3⟩
    go_wp2
    go_ret2
    exact ⟨_, by rw [HO.out]; rfl, by rw [HO.out]; exact hasRow_own ho3, below2 hbz hb3⟩
end Go.Proofs.Ytoigogjklhahkaa.Disk
