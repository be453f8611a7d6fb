/- What disk.Write, Flush and Crash return, for every disk. -/
import Derived.Test.YtoigogjklhahkaaDiskDoes2
set_option linter.unusedVariables false
namespace Go.Proofs.Ytoigogjklhahkaa.Disk
open Go.RowKit Go.Shelf

def Small (r : Dk) : Prop := (∀ z ∈ r.secs, z.length ≤ 128) ∧ (∀ p ∈ r.cache, p.2.length ≤ 128) ∧ r.secs.length ≤ 1024 ∧ r.cache.length ≤ 5000
theorem Ok.small {d : Dk} (h : Ok d) : Small d := ⟨fun z hz => by rw [h.whole z hz]; omega, fun p hp => by rw [(h.puts p hp).2]; omega, h.many, by have := h.few; omega⟩
theorem writeD_small {d : Dk} (h : Ok d) (at' : Int) (data : List UInt8) : Small (writeD d at' data).1 := by
  unfold writeD
  split
  · exact h.small
  · split
    · exact h.small
    · split
      · exact h.small
      · split
        · exact h.small
        · rename_i h1 h2 h3 h4
          obtain ⟨a, b, c, e⟩ := h.small
          refine ⟨a, fun p hp => ?_, c, by simp; have := h.few; omega⟩
          simp only [List.mem_append, List.mem_singleton] at hp
          rcases hp with hp | rfl
          · exact b p hp
          · simp at h3; simp; omega
theorem settle_small {d : Dk} (h : Ok d) (part : Nat → Nat) (hp : ∀ i, part i ≤ 128) (f : Int) (o : Bool) : Small ⟨settleF part 0 d.secs d.cache, [], f, o⟩ :=
  ⟨fun z hz => by rw [settleF_all part hp d.cache 0 d.secs h.whole h.puts z hz]; omega, fun p hp => by simp at hp, by simp only [settleF_len]; exact h.many, by simp⟩
theorem flushD_small {d : Dk} (h : Ok d) : Small (flushD d).1 := by
  unfold flushD
  split
  · exact h.small
  · exact settle_small h wholeF (fun _ => Nat.le_refl _) _ _
theorem enters32 : ∀ args w, (callFunc 22 args).run Try.prog w = .ok (.enter 22 args) w := enters_of Try.func22 (by kernel_rfl) rfl
theorem enters34 : ∀ args w, (callFunc 20 args).run Try.prog w = .ok (.enter 20 args) w := enters_of Try.func20 (by kernel_rfl) rfl
theorem enters47 : ∀ args w, (callFunc 25 args).run Try.prog w = .ok (.enter 25 args) w := enters_of Try.func25 (by kernel_rfl) rfl
set_option maxHeartbeats 2000000 in
theorem flush_fn (d : Dk) (v : Value) (w : World) (h : HasDk w v d) (hf : Fits d) : Calls Try.prog 7 #[v] w (DiskIs (outD d (flushD d)) w) := by
  obtain ⟨s, c, rfl, hs, hc⟩ := h
  obtain ⟨W0, hW0⟩ : ∃ W0, W0 = (w.alloc (.cells #[s, c, .int .i64 d.fuse, .bool d.off] 30)).alloc (.cells #[.slice none 0 0, .slice none 0 0, .int .i64 0, .bool false] 30) := ⟨_, rfl⟩
  have hB0 : Below w.heap.size w W0 := by rw [hW0]; exact ((Below.refl _ w).alloc (Nat.le_refl _) _).alloc (by simp) _
  have hR0 : RBox W0 (w.heap.size + 1) := by
    have := heap_alloc_new (w.alloc (.cells #[s, c, .int .i64 d.fuse, .bool d.off] 30)) (.cells #[.slice none 0 0, .slice none 0 0, .int .i64 0, .bool false] 30)
    rw [World.size_alloc, ← hW0] at this
    exact this
  have cd := does_any 20 #[] enters34 d (.agg #[s, c, .int .i64 d.fuse, .bool d.off]) W0 ⟨s, c, rfl, hs.keep hB0, hc.keep hB0⟩ hf (flushD d) (fun hok => flushD_small (ok_of hok)) (fun hok W B _ _ hin => flush1_any B d W hin (ok_of hok) hf.1.2)
  have hsz : w.heap.size ≤ W0.heap.size := hB0.size
  obtain ⟨so, sc, rfl, _, _⟩ := HasRow.slice hs
  obtain ⟨co, cc, rfl, _, _⟩ := HasRow.slice hc
  clear hs hc hf
  generalize outD d (flushD d) = r at cd ⊢
  unfold DiskIs at cd
  go_enter Try.func7, Try.ntmps7
  go_wp2_with fail
  rw [← hW0]
  go_at_call 19; refine cd.mono ?_; rintro e w1 ⟨u, rfl, ⟨s1, c1, rfl, hs1, hc1⟩, hb⟩
  have hR1 := hR0.below hb
  obtain ⟨q0, q1, q2, q3, qf⟩ := hR1.cells
  have HNS : Hid (∀ x z, w1.cell? ⟨w.heap.size + 1, x, none⟩ ≠ some (.string z)) := hR1.nostr
  have hbz := below2 hB0 hb
  have HH : Hid (HasStrs w1 s1 r.1.secs ∧ HasPuts w1 c1 r.1.cache) := ⟨hs1, hc1⟩
  obtain ⟨so1, sc1, rfl, _, _⟩ := HasRow.slice hs1
  obtain ⟨co1, cc1, rfl, _, _⟩ := HasRow.slice hc1
  clear hs1 hc1 cd hW0 hR0 hR1
  go_wp2
  (try simp only [Exit.inBlock, Exit.then])
  refine bodyPost_ret (v := .tuple #[.agg #[.slice so1 r.1.secs.length sc1, .slice co1 r.1.cache.length cc1, .int .i64 r.1.fuse, .bool r.1.off], .int .i64 r.2]) ?_ rfl ⟨_, rfl, ⟨_, _, rfl, HH.out.1.box HNS.out (set4_grown _ _ _ _ _ _), HH.out.2.box HNS.out (set4_grown _ _ _ _ _ _)⟩, set4_below hbz (by omega) _ _ _ _⟩
  rw [results_cell_tmp rfl]
  go_simp
theorem alloc_cell (W : World) (x : Value) (t : TypeId) : (W.alloc (.cells #[x] t)).cell? ⟨W.heap.size, 0, none⟩ = some x := by
  simp only [World.cell?, heap_alloc_new]; exact if_neg (by simp)
theorem alloc_far {W : World} {b o : Nat} (h : b < W.heap.size) (x : Obj) : (W.alloc x).cell? ⟨b, o, none⟩ = W.cell? ⟨b, o, none⟩ := ((Below.refl _ W).alloc (Nat.le_refl _) x).cell (p := ⟨b, o, none⟩) h
set_option maxHeartbeats 2000000 in
theorem write_fn (d : Dk) (v : Value) (at' : Int) (data : List UInt8) (w : World) (h : HasDk w v d) (hf : Fits d) (hat : -9223372036854775808 ≤ at' ∧ at' ≤ 9223372036854775807) (hd : data.length ≤ 9223372036854775807) :
    Calls Try.prog 8 #[v, .int .i64 at', strV data] w (DiskIs (outD d (writeD d at' data)) w) := by
  obtain ⟨s, c, rfl, hs, hc⟩ := h
  obtain ⟨X1, hX1⟩ : ∃ X, X = w.alloc (.cells #[s, c, .int .i64 d.fuse, .bool d.off] 30) := ⟨_, rfl⟩
  have z1 : X1.heap.size = w.heap.size + 1 := by rw [hX1]; simp
  obtain ⟨X2, hX2⟩ : ∃ X, X = X1.alloc (.cells #[.int .i64 at'] 3) := ⟨_, rfl⟩
  have z2 : X2.heap.size = w.heap.size + 2 := by rw [hX2]; simp; omega
  obtain ⟨X3, hX3⟩ : ∃ X, X = X2.alloc (.cells #[strV data] 9) := ⟨_, rfl⟩
  have z3 : X3.heap.size = w.heap.size + 3 := by rw [hX3]; simp; omega
  obtain ⟨W0, hW0⟩ : ∃ W0, W0 = X3.alloc (.cells #[.slice none 0 0, .slice none 0 0, .int .i64 0, .bool false] 30) := ⟨_, rfl⟩
  have z4 : W0.heap.size = w.heap.size + 4 := by rw [hW0]; simp; omega
  have b1 : Below w.heap.size w X1 := by rw [hX1]; exact (Below.refl _ w).alloc (Nat.le_refl _) _
  have b2 : Below w.heap.size w X2 := by rw [hX2]; exact b1.alloc (by omega) _
  have b3 : Below w.heap.size w X3 := by rw [hX3]; exact b2.alloc (by omega) _
  have hB0 : Below w.heap.size w W0 := by rw [hW0]; exact b3.alloc (by omega) _
  have hR0 : RBox W0 (w.heap.size + 3) := by rw [hW0, ← z3]; exact heap_alloc_new _ _
  have k1 : W0.cell? ⟨w.heap.size + 1, 0, none⟩ = some (.int .i64 at') := by
    rw [hW0, alloc_far (by omega), hX3, alloc_far (by omega), hX2, ← z1]; exact alloc_cell _ _ _
  have k2 : W0.cell? ⟨w.heap.size + 2, 0, none⟩ = some (strV data) := by
    rw [hW0, alloc_far (by omega), hX3, ← z2]; exact alloc_cell _ _ _
  have cd := does_any 22 #[.pointer (some ⟨w.heap.size + 1, 0, none⟩), .pointer (some ⟨w.heap.size + 2, 0, none⟩)] enters32 d (.agg #[s, c, .int .i64 d.fuse, .bool d.off]) W0 ⟨s, c, rfl, hs.keep hB0, hc.keep hB0⟩ hf (writeD d at' data) (fun hok => writeD_small (ok_of hok) at' data)
    (fun hok W B hb _ hin => write1_any B (w.heap.size + 1) (w.heap.size + 2) d at' data W hin (ok_of hok) hf.1.2 hat hd (((bcell hb).1 _ _ (by omega)).trans k1) (((bcell hb).1 _ _ (by omega)).trans k2))
  have hsz : w.heap.size ≤ W0.heap.size := hB0.size
  obtain ⟨so, sc, rfl, _, _⟩ := HasRow.slice hs
  obtain ⟨co, cc, rfl, _, _⟩ := HasRow.slice hc
  rw [hX3, hX2, hX1] at hW0
  clear hs hc hf hX3 hX2 hX1 z1 z2 z3 k1 k2 b1 b2 b3 X1 X2 X3
  generalize outD d (writeD d at' data) = r at cd ⊢
  unfold DiskIs at cd
  unfold strV at hW0 ⊢
  generalize (⟨data.toArray⟩ : ByteArray) = D at *
  go_enter Try.func8, Try.ntmps8
  go_wp2_with fail
  rw [← hW0]
  go_at_call 19; refine cd.mono ?_; rintro e w1 ⟨u, rfl, ⟨s1, c1, rfl, hs1, hc1⟩, hb⟩
  have hR1 := hR0.below hb
  obtain ⟨q0, q1, q2, q3, qf⟩ := hR1.cells
  have HNS : Hid (∀ x z, w1.cell? ⟨w.heap.size + 3, x, none⟩ ≠ some (.string z)) := hR1.nostr
  have hbz := below2 hB0 hb
  have HH : Hid (HasStrs w1 s1 r.1.secs ∧ HasPuts w1 c1 r.1.cache) := ⟨hs1, hc1⟩
  obtain ⟨so1, sc1, rfl, _, _⟩ := HasRow.slice hs1
  obtain ⟨co1, cc1, rfl, _, _⟩ := HasRow.slice hc1
  clear hs1 hc1 cd hW0 hR0 hR1
  go_wp2
  (try simp only [Exit.inBlock, Exit.then])
  refine bodyPost_ret (v := .tuple #[.agg #[.slice so1 r.1.secs.length sc1, .slice co1 r.1.cache.length cc1, .int .i64 r.1.fuse, .bool r.1.off], .int .i64 r.2]) ?_ rfl ⟨_, rfl, ⟨_, _, rfl, HH.out.1.box HNS.out (set4_grown _ _ _ _ _ _), HH.out.2.box HNS.out (set4_grown _ _ _ _ _ _)⟩, set4_below hbz (by omega) _ _ _ _⟩
  rw [results_cell_tmp rfl]
  go_simp
end Go.Proofs.Ytoigogjklhahkaa.Disk
