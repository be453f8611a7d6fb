/- For all batches, marks and crashes: spoorlaw07.SegmentAnew returns true, and changes nothing that was there. No condition. -/
import Derived.Test.YtbikcpchlgmoaaaSwA
import Derived.Test.YtbikcpchlgmoaaaDiskMath
import Derived.Test.YtbikcpchlgmoaaaDiskHolds
import Derived.Test.YtbikcpchlgmoaaaDiskMake2
import Derived.Test.YtbikcpchlgmoaaaWalkFrame
import Derived.Test.YtbikcpchlgmoaaaPageRef3
import Derived.Test.YtbikcpchlgmoaaaDiskRef4
import Derived.Test.YtbikcpchlgmoaaaPageRefPut
import Derived.Test.YtbikcpchlgmoaaaDiskOpen
import Derived.Deep.Slices
import Derived.Test.YtbikcpchlgmoaaaRows
import Derived.Test.YtbikcpchlgmoaaaDiskCrash
import Derived.ProofKit
import Derived.OpenShut
import Derived.ShutString
import Derived.SizedLaws
set_option linter.unusedVariables false
namespace Go.Proofs.Ytbikcpchlgmoaaa.Disk

theorem settleF_other (part : Nat → Nat) (k : Nat) (ps : List PutT) : ∀ i secs, (∀ p ∈ ps, 0 ≤ p.1 ∧ p.1 ≠ (k : Int)) → (settleF part i secs ps)[k]? = secs[k]? := by
  induction ps with
  | nil => intro i secs _; rfl
  | cons q ps ih =>
    intro i secs h
    rw [settleF, ih _ _ (fun p hp => h p (by simp [hp]))]
    have hq := h q (by simp)
    rw [List.getElem?_set, if_neg (by omega)]
/-- as long as only other sectors were written -/
structure Kept (S : List (List UInt8)) (at' : Int) (d : Dk) : Prop where
  ok : Ok d
  secs : d.secs = S
  fuse : d.fuse = -1
  off : d.off = false
  puts : ∀ p ∈ d.cache, p.1 ≠ at'
theorem Kept.write {S : List (List UInt8)} {at' : Int} {d : Dk} (h : Kept S at' d) (a : Int) (data : List UInt8) (ha : a ≠ at') : Kept S at' (outD d (writeD d a data)).1 := by
  rw [outD_ok h.ok]
  have hok := write_ok h.ok a data
  rcases write_cases d a data with ⟨e, _⟩ | ⟨h1, h2, h3, h4, e⟩
  · rw [e]; exact h
  · rw [e] at hok ⊢
    refine ⟨hok, h.secs, by show spendF _ _ = -1; rw [h.fuse, h.off]; rfl, by show offAfter _ _ = false; rw [h.fuse, h.off]; rfl, fun p hp => ?_⟩
    simp only [List.mem_append, List.mem_singleton] at hp
    rcases hp with hp | rfl
    · exact h.puts p hp
    · exact ha
theorem Kept.crash {S : List (List UInt8)} {at' : Int} {d : Dk} (h : Kept S at' d) (hin : inB S.length at' = true) (keep : List Bool) (torn bytes : Int) : (outD d (crashD d keep torn bytes)).2 = 0 ∧ readD (outD d (crashD d keep torn bytes)).1 at' = (S.getD at'.toNat [], 0) := by
  rw [outD_ok h.ok]
  refine ⟨rfl, ?_⟩
  have hok := crash_ok h.ok keep torn bytes
  have hin2 : 0 ≤ at' ∧ at' < (S.length : Int) := by simpa [inB] using hin
  unfold readD
  rw [if_pos (ok_mk hok), if_neg (by show ¬ (false = true); decide), if_pos (by show inB (settleF _ _ _ _).length at' = true; rw [settleF_len, h.secs]; exact hin)]
  show (holdsL (settleF _ _ _ _) [] at', (0 : Int)) = _
  rw [h.secs]
  unfold holdsL
  simp only [List.reverse_nil, List.find?_nil, Option.map_none, Option.getD_none]
  rw [List.getD_eq_getElem?_getD, List.getD_eq_getElem?_getD, settleF_other _ at'.toNat d.cache 0 S (fun p hp => ?_)]
  have h1 := (h.ok.puts p hp).1
  have h2 : 0 ≤ p.1 ∧ p.1 < (d.secs.length : Int) := by simpa [inB] using h1
  exact ⟨h2.1, by have := h.puts p hp; omega⟩
theorem ok_make {n : Int} (h : 1 ≤ n ∧ n ≤ 1024) : Ok (makeD n).1 ∧ (makeD n).2 = 0 ∧ (makeD n).1.secs.length = n.toNat ∧ (makeD n).1.fuse = -1 ∧ (makeD n).1.off = false ∧ (makeD n).1.cache = [] := by
  unfold makeD
  rw [if_pos h]
  refine ⟨⟨by show 1 ≤ (List.replicate _ _).length; simp; omega, by show (List.replicate _ _).length ≤ _; simp; omega, by show 0 ≤ _; omega, by show -1 ≤ (-1 : Int); omega, fun z hz => ?_, by intro p hp; exact absurd hp (by show p ∉ []; simp)⟩, rfl, by simp, rfl, rfl, rfl⟩
  rw [List.eq_of_mem_replicate hz]; simp [zeroS]
/-- a new disk, written to and flushed -/
theorem kept_begin {n at' : Int} {data : List UInt8} (h1 : (makeD n).2 = 0) (h2 : (outD (makeD n).1 (writeD (makeD n).1 at' data)).2 = 0) :
    let d2 := (outD (makeD n).1 (writeD (makeD n).1 at' data)).1
    (outD d2 (flushD d2)).2 = 0 ∧ ∃ S, Kept S at' (outD d2 (flushD d2)).1 ∧ inB S.length at' = true ∧ S.getD at'.toNat [] = data := by
  have hn : 1 ≤ n ∧ n ≤ 1024 := by
    by_cases h : 1 ≤ n ∧ n ≤ 1024
    · exact h
    · unfold makeD at h1; rw [if_neg h] at h1; simp at h1
  obtain ⟨hok, _, hlen, hf, ho, hc⟩ := ok_make hn
  rw [outD_ok hok] at h2
  intro d2
  rcases write_cases (makeD n).1 at' data with ⟨e, h⟩ | ⟨g1, g2, g3, g4, e⟩
  · exfalso
    rcases h with ⟨h, _⟩ | ⟨_, h | h | h⟩ <;> rw [h] at h2 <;> cases h2
  · have hd2 : d2 = ⟨(makeD n).1.secs, (makeD n).1.cache ++ [(at', data)], spendF (makeD n).1.fuse (makeD n).1.off, offAfter (makeD n).1.fuse (makeD n).1.off⟩ := by show (outD _ _).1 = _; rw [outD_ok hok, e]
    have hok2 : Ok d2 := by rw [hd2]; exact ok_put hok g2 g3 g4 _ _ (spendF_ge hok.fuse)
    rw [outD_ok hok2]
    have hoff : offAfter d2.fuse d2.off = false := by rw [hd2]; show offAfter (spendF _ _) (offAfter _ _) = false; rw [hf, ho]; rfl
    have hfl : flushD d2 = (⟨allH d2, [], spendF d2.fuse d2.off, false⟩, 0) := by unfold flushD; rw [hoff]; rfl
    rw [hfl]
    refine ⟨rfl, allH d2, ⟨?_, rfl, ?_, rfl, fun p hp => absurd hp (by show p ∉ []; simp)⟩, ?_, ?_⟩
    · have := flush_ok hok2; rw [hfl] at this; exact this
    · show spendF d2.fuse d2.off = -1; rw [hd2]; show spendF (spendF _ _) (offAfter _ _) = -1; rw [hf, ho]; rfl
    · rw [allH_len, hd2]; exact g2
    · have hin2 : 0 ≤ at' ∧ at' < ((makeD n).1.secs.length : Int) := by simpa [inB] using g2
      rw [hd2, allH_put hok g2 g3, List.getD_eq_getElem?_getD, List.getElem?_set, if_pos rfl, if_pos (by rw [allH_len]; omega)]
      rfl
end Go.Proofs.Ytbikcpchlgmoaaa.Disk
namespace Go.Proofs.Ytbikcpchlgmoaaa.Seg
open Go.RowKit Go.Shelf
open Go.Proofs.Ytbikcpchlgmoaaa.Disk (below2)
open Go.Proofs.Ytbikcpchlgmoaaa.Frame (catL frameL catL_snoc size_list)

def batchR (zs : List (List UInt8)) : List UInt8 × Int := if zs.all (fun z => decide (z.length ≤ 4096)) = true then (catL zs, 0) else ([], 11)
theorem batchR_bad {zs : List (List UInt8)} {k : Nat} (hk : k < zs.length) (h : ¬ zs[k].length ≤ 4096) : batchR zs = ([], 11) := by
  unfold batchR
  rw [if_neg]
  intro ha
  exact h (by simpa using List.all_eq_true.1 ha _ (List.getElem_mem hk))
theorem batchR_ok {zs : List (List UInt8)} (h : ∀ z ∈ zs, z.length ≤ 4096) : batchR zs = (catL zs, 0) := by
  unfold batchR
  rw [if_pos]
  exact List.all_eq_true.2 (fun z hz => by simpa using h z hz)
theorem bytes_cat (a b : List UInt8) : (⟨a.toArray⟩ : ByteArray) ++ ⟨b.toArray⟩ = ⟨(a ++ b).toArray⟩ := by
  apply ByteArray.ext
  simp
theorem cat_most (zs : List (List UInt8)) (h : ∀ z ∈ zs, z.length ≤ 4096) : (catL zs).length ≤ 4110 * zs.length := by
  induction zs with
  | nil => simp [catL]
  | cons z zs ih =>
    have h1 := ih (fun y hy => h y (List.mem_cons_of_mem _ hy))
    have h2 := h z List.mem_cons_self
    have h3 := Frame.putL_le z.length h2
    rw [Frame.catL_cons, List.length_append, Frame.frameL_len, List.length_cons]
    omega
set_option maxHeartbeats 2000000 in
set_option maxRecDepth 20000 in
theorem rbatch_any (zs : List (List UInt8)) (v : Value) (w : World) (h : Frame.HasStrs w v zs) (hn9 : zs.length ≤ 1048576) (hz9 : ∀ z ∈ zs, z.length ≤ 140737488351232) :
    Calls Try.prog 31 #[v] w fun e w' => e = .returned (.tuple #[.string ⟨(batchR zs).1.toArray⟩, .int .i64 (batchR zs).2]) ∧ Below w.heap.size w w' := by
  obtain ⟨o, cap, rfl, g⟩ := h
  obtain ⟨n, hn⟩ : ∃ n, n = zs.length := ⟨_, rfl⟩
  have HN : Hid (n = zs.length) := hn
  have HG : Hid (∀ j (hj : j < zs.length), ∃ b i, o = some ⟨b, i, none⟩ ∧ w.cell? ⟨b, i + j, none⟩ = some (Frame.strV zs[j]) ∧ b < w.heap.size) := g
  have HZ : Hid (∀ z ∈ zs, z.length ≤ 140737488351232) := hz9
  have hni : (n : Int) ≤ 1048576 := by omega
  rw [← hn]
  clear hn g hz9 hn9
  go_enter Try.func31, Try.ntmps31
  go_wp2_with fail
  go_loopw [4, 11] (fun s i wr => ∃ (k : Nat) (A : ByteArray), k ≤ n ∧ i = .int .i64 k ∧ s = .string A ∧ Hid (A = ⟨(catL (zs.take k)).toArray⟩ ∧ ∀ z ∈ zs.take k, z.length ≤ 4096) ∧ Below w.heap.size w wr) (fun _ i _ => n - (intOf i).toNat)
  case atStart => exact ⟨0, ⟨#[]⟩, by omega, rfl, rfl, ⟨by simp [catL], by simp⟩, Below.refl _ w⟩
  case round =>
    obtain ⟨k, A, hk, rfl, rfl, HJ, hW⟩ := hrel
    have hsz := hW.size
    by_cases hlt : k < n
    · have hkz : k < zs.length := by rw [← HN.out]; exact hlt
      have hki : (k : Int) < (n : Int) := by omega
      obtain ⟨b, i, rfl, q1, l1⟩ := HG.out k hkz
      have r1 := (hW.cell (p := ⟨b, i + k, none⟩) l1).trans q1
      have hAz : A.size ≤ 4110 * 1048576 := by
        have h1 := cat_most _ HJ.out.2
        have h2 : (zs.take k).length ≤ k := by rw [List.length_take]; omega
        rw [HJ.out.1, size_list]
        omega
      unfold Frame.strV at r1
      by_cases hz : zs[k].length ≤ 4096
      · have cp := fun W => Frame.rput_ok zs[k] W hz
        have hfl : (frameL zs[k]).length ≤ 4110 := by rw [Frame.frameL_len]; have := Frame.putL_le _ hz; omega
        have HJ2 : Hid (A ++ ⟨(frameL zs[k]).toArray⟩ = ⟨(catL (zs.take (k + 1))).toArray⟩ ∧ ∀ z ∈ zs.take (k + 1), z.length ≤ 4096) := by
          refine ⟨?_, ?_⟩
          · rw [HJ.out.1, List.take_succ_eq_append_getElem hkz, catL_snoc, bytes_cat]
          · intro z hzz
            rw [List.take_succ_eq_append_getElem hkz, List.mem_append] at hzz
            rcases hzz with h | h
            · exact HJ.out.2 z h
            · rw [List.mem_singleton.1 h]; exact hz
        have hFz : (⟨(frameL zs[k]).toArray⟩ : ByteArray).size ≤ 4110 := by rw [size_list]; exact hfl
        generalize (⟨(frameL zs[k]).toArray⟩ : ByteArray) = F at cp HJ2 hFz
        generalize (⟨(zs[k]).toArray⟩ : ByteArray) = Zb at r1 cp
        clear q1 hz hfl
        go_wp2_with fail
        go_at_call 62; refine (cp _).mono ?_; rintro e w3 ⟨rfl, hb3⟩
        have hW3 := below2 hW hb3
        clear cp r1 hb3
        go_wp2
        go_roundw
        case rel => exact ⟨k + 1, _, by omega, by go_num, rfl, HJ2, hW3⟩
        case measure => simp [intOf]; omega
      · have cp := fun W => Frame.rput_long ⟨(zs[k]).toArray⟩ W (by rw [size_list]; omega) (by rw [size_list]; have := HZ.out _ (List.getElem_mem hkz); omega)
        have HR : Hid (batchR zs = ([], 11)) := batchR_bad hkz hz
        generalize (⟨(zs[k]).toArray⟩ : ByteArray) = Zb at r1 cp
        clear q1 hz
        go_wp2_with fail
        go_at_call 62; refine (cp _).mono ?_; rintro e w3 ⟨rfl, hb3⟩
        have hW3 := below2 hW hb3
        clear cp r1 hb3
        go_wp2
        go_ret2
        exact ⟨by rw [HR.out]; rfl, hW3⟩
    · obtain rfl : k = n := by omega
      have HR : Hid (batchR zs = (catL zs, 0) ∧ A = ⟨(catL zs).toArray⟩) := by
        have h1 := HJ.out
        rw [HN.out, List.take_length] at h1
        exact ⟨batchR_ok h1.2, h1.1⟩
      go_wp2
      go_ret2
      exact ⟨by rw [HR.out.1, HR.out.2]; rfl, hW⟩
end Go.Proofs.Ytbikcpchlgmoaaa.Seg
namespace Go.Proofs.Ytbikcpchlgmoaaa.Seg
open Go.RowKit Go.Shelf
open Go.Proofs.Ytbikcpchlgmoaaa.Disk (below2)
open Go.Proofs.Ytbikcpchlgmoaaa.Frame (catL frameL)
open Go.Proofs.Ytbikcpchlgmoaaa.Page (splitR splitL cntL RowsIs)

theorem own_row {W : World} {B : Nat} {v : Value} {n : Nat} {xs : List Value} (h : W.ownsRow B 9 1 v n xs) : ∃ o c, v = .slice o n c := by
  rcases h.2 with ⟨rfl, h0⟩ | ⟨g, cap, cur, rfl, _⟩
  · exact ⟨none, 0, by rw [h0]⟩
  · exact ⟨_, _, rfl⟩
theorem need_split {zs : List (List UInt8)} (h : ∀ z ∈ zs, z.length ≤ 4096) : needE zs = ((splitR 1 (catL zs)).1.length, (splitR 1 (catL zs)).2) := by
  unfold needE splitR
  by_cases h2 : (catL zs).length ≤ 14208
  · rw [if_pos (okR_mk h h2), if_neg (by omega), if_pos h2]
    simp only [Page.splitL_len]
    rfl
  · rw [if_neg (fun ha => h2 (okR_inv ha).2), if_neg (by omega), if_neg h2]
    rfl
set_option maxHeartbeats 2000000 in
set_option maxRecDepth 20000 in
theorem rneed_any (zs : List (List UInt8)) (v : Value) (w : World) (h : Frame.HasStrs w v zs) (hn9 : zs.length ≤ 1048576) (hz9 : ∀ z ∈ zs, z.length ≤ 140737488351232) :
    Calls Try.prog 14 #[v] w (LongIs (needE zs) w) := by
  have cb := rbatch_any zs v w h hn9 hz9
  obtain ⟨o, cap, rfl, _⟩ := h
  by_cases hall : ∀ z ∈ zs, z.length ≤ 4096
  · rw [batchR_ok hall] at cb
    have hm := cat_most zs hall
    have cs := fun W => Page.rsplit_any 1 (catL zs) W (by decide) (by omega)
    have HR : Hid (needE zs = ((splitR 1 (catL zs)).1.length, (splitR 1 (catL zs)).2)) := need_split hall
    generalize needE zs = R at HR
    generalize splitR 1 (catL zs) = r at cs HR
    obtain ⟨rows, y⟩ := r
    unfold RowsIs at cs
    simp only at cb cs HR
    rw [show ((1 : Nat) : Int) = 1 from rfl] at cs
    generalize (⟨(catL zs).toArray⟩ : ByteArray) = Cs at cb cs
    clear hm hall hn9 hz9
    go_enter Try.func14, Try.ntmps14
    go_wp2_with fail
    go_at_call 31; refine cb.mono ?_; rintro e w1 ⟨rfl, hb1⟩
    clear cb
    go_wp2_with fail
    go_at_call 38; refine (cs _).mono ?_; rintro e w2 ⟨v2, rfl, ho, hb2⟩
    obtain ⟨oo, oc, rfl⟩ := own_row ho
    clear cs ho
    go_wp2
    go_ret2
    exact ⟨by rw [HR.out]; rfl, below2 hb1 hb2⟩
  · have hb : batchR zs = ([], 11) := by
      unfold batchR
      rw [if_neg]
      intro ha
      exact hall (fun z hz => by simpa using List.all_eq_true.1 ha z hz)
    have HR : Hid (needE zs = (0, 11)) := by
      show _ = _
      unfold needE
      rw [if_neg]
      intro ha
      exact hall (okR_inv ha).1
    rw [hb] at cb
    generalize needE zs = R at HR
    simp only at cb
    clear hall hb hn9 hz9
    go_enter Try.func14, Try.ntmps14
    go_wp2_with fail
    go_at_call 31; refine cb.mono ?_; rintro e w1 ⟨rfl, hb1⟩
    clear cb
    go_wp2
    go_ret2
    exact ⟨by rw [HR.out]; rfl, hb1⟩
end Go.Proofs.Ytbikcpchlgmoaaa.Seg
namespace Go.Proofs.Ytbikcpchlgmoaaa.Seg
open Go.RowKit Go.Shelf
open Go.Proofs.Ytbikcpchlgmoaaa.Disk (Dk HasDk VDk VBox RBox Fits fits_ok Ok okB ok_of HasRow Back back_of writeD outD_ok zeroD zeroD_has set4_grown set4_below below2 HasStrs HasPuts)
open Go.Proofs.Ytbikcpchlgmoaaa.Page (pageL pieceL pieceL_len cntL StrIs putL_ok extract_piece slice_lh)
open Go.Proofs.Ytbikcpchlgmoaaa.Frame (catL size_list)

/-- the boxes of the document's write -/
structure RwAt (w W : World) (D : Dk) : Prop where
  disk : VDk W w.heap.size D
  res : RBox W (w.heap.size + 1)
  below : Below w.heap.size w W
theorem RwAt.keep {w W W' : World} {D : Dk} (h : RwAt w W D) (hb : Below W.heap.size W W') : RwAt w W' D := ⟨h.disk.below hb, h.res.below hb, below2 h.below hb⟩
theorem RwAt.store {w W : World} {D r : Dk} {so co : Option Addr} {sc cc : Nat} (h : RwAt w W D) (hs : HasStrs W (.slice so r.secs.length sc) r.secs) (hc : HasPuts W (.slice co r.cache.length cc) r.cache) :
    RwAt w ((((W.setCell ⟨w.heap.size, 0, none⟩ (.slice so r.secs.length sc)).setCell ⟨w.heap.size, 1, none⟩ (.slice co r.cache.length cc)).setCell ⟨w.heap.size, 2, none⟩ (.int .i64 r.fuse)).setCell ⟨w.heap.size, 3, none⟩ (.bool r.off)) r :=
  ⟨h.disk.store hs hc, h.res.kept (set4_grown _ _ _ _ _ _) (by simp), set4_below h.below (Nat.le_refl _) _ _ _ _⟩
theorem RwAt.out {w W : World} {D : Dk} {so co : Option Addr} {sc cc : Nat} (h : RwAt w W D) (hs : HasStrs W (.slice so D.secs.length sc) D.secs) (hc : HasPuts W (.slice co D.cache.length cc) D.cache) :
    HasDk ((((W.setCell ⟨w.heap.size + 1, 0, none⟩ (.slice so D.secs.length sc)).setCell ⟨w.heap.size + 1, 1, none⟩ (.slice co D.cache.length cc)).setCell ⟨w.heap.size + 1, 2, none⟩ (.int .i64 D.fuse)).setCell ⟨w.heap.size + 1, 3, none⟩ (.bool D.off)) (.agg #[.slice so D.secs.length sc, .slice co D.cache.length cc, .int .i64 D.fuse, .bool D.off]) D ∧
    Below w.heap.size w ((((W.setCell ⟨w.heap.size + 1, 0, none⟩ (.slice so D.secs.length sc)).setCell ⟨w.heap.size + 1, 1, none⟩ (.slice co D.cache.length cc)).setCell ⟨w.heap.size + 1, 2, none⟩ (.int .i64 D.fuse)).setCell ⟨w.heap.size + 1, 3, none⟩ (.bool D.off)) :=
  ⟨⟨_, _, rfl, hs.box h.res.nostr (set4_grown _ _ _ _ _ _), hc.box h.res.nostr (set4_grown _ _ _ _ _ _)⟩, set4_below h.below (by omega) _ _ _ _⟩
set_option maxHeartbeats 8000000 in
set_option maxRecDepth 20000 in
theorem rswrite_ok (d : Dk) (v : Value) (s : Int) (t : Nat) (at' : Int) (zs : List (List UInt8)) (u : Value) (w : World) (h : HasDk w v d) (hf : Fits d) (hu : Frame.HasStrs w u zs) (hn9 : zs.length ≤ 1048576) (hz9 : ∀ z ∈ zs, z.length ≤ 140737488351232)
    (hly : (longE d).2 = 0) (hmy : mayE (longE d).1 s t at' zs = 0) :
    Calls Try.prog 10 #[v, .int .i64 s, .int .u64 (t : Int), .int .i64 at', u] w (WrIs (writeS d s t at' zs) w) := by
  obtain ⟨⟨a, rfl, ha8⟩, ⟨ht1, ht2⟩, ⟨b, rfl, hbc⟩, hok⟩ := may_inv hmy
  have hhu : ∀ W, Below w.heap.size w W → Frame.HasStrs W u zs := fun W hb => hu.keep hb
  obtain ⟨hokb, h10, h1024, hL⟩ := long_inv hly
  have hOK := ok_of hokb
  have clo := fun W v (hd : HasDk W v d) => rlong_any d v W hd hf
  unfold LongIs at clo
  rw [hly] at clo
  have cne := fun W (hb : Below w.heap.size w W) => rneed_any zs u W (hhu W hb) hn9 hz9
  have cba := fun W (hb : Below w.heap.size w W) => rbatch_any zs u W (hhu W hb) hn9 hz9
  rw [show needE zs = (cntL (catL zs), 0) by unfold needE; rw [if_pos hok]; rfl] at cne
  rw [batchR_ok (okR_inv hok).1] at cba
  unfold LongIs at cne
  simp only at cne cba
  have ccp := fun W v (hd : HasDk W v d) => Disk.rcopy_any d v W hd (by omega) (by have := hOK.few; omega)
  have hroom : 2 + a * (longE d).1 + (longE d).1 ≤ d.secs.length := by rw [hL]; exact seg_room h10 ha8
  have HR : Hid (writeS d (a : Int) t (b : Int) zs = if (putAll d (2 + a * (longE d).1 + b) (pagesR (t + b) zs)).2 = 0 then ((putAll d (2 + a * (longE d).1 + b) (pagesR (t + b) zs)).1, b + cntL (catL zs), 0)
       else ((putAll d (2 + a * (longE d).1 + b) (pagesR (t + b) zs)).1, 0, (putAll d (2 + a * (longE d).1 + b) (pagesR (t + b) zs)).2)) := by
    show _ = _
    rw [writeS, if_pos hly, if_pos hmy, Int.toNat_natCast, Int.toNat_natCast]
  have hL127 : (longE d).1 ≤ 127 := by omega
  generalize writeS d (a : Int) t (b : Int) zs = R at HR
  clear hmy hly hL
  generalize (longE d).1 = L at *
  obtain ⟨m, hm⟩ : ∃ m, m = a * L := ⟨_, rfl⟩
  have hmi : (a : Int) * (L : Int) = (m : Int) := by rw [hm]; simp
  rw [← hm] at HR hroom
  have HPA : Hid (∀ k, k < cntL (catL zs) → ∃ hk : k < (pagesR (t + b) zs).length, (pagesR (t + b) zs)[k] = pageL (t + b + k) (pieceL (catL zs) k)) := fun k hk => ⟨by rw [pagesR_len]; exact hk, pagesR_at _ _ _ _⟩
  have hPl := pagesR_len (t + b) zs
  obtain ⟨so, sc, co, cc, rfl, hsx, hcx⟩ := h.parts
  obtain ⟨uo, uc, rfl, _⟩ := hu
  obtain ⟨X, hX⟩ : ∃ X, X = (w.alloc (.cells #[.slice so d.secs.length sc, .slice co d.cache.length cc, .int .i64 d.fuse, .bool d.off] 25)).alloc (.cells #[.slice none 0 0, .slice none 0 0, .int .i64 0, .bool false] 25) := ⟨_, rfl⟩
  have HX : Hid (RwAt w X d) := by
    refine ⟨?_, ?_, ?_⟩
    · rw [hX]; exact (VDk.new hsx hcx).below ((Below.refl _ _).alloc (Nat.le_refl _) _)
    · have := World.alloc_heap_new (w.alloc (.cells #[.slice so d.secs.length sc, .slice co d.cache.length cc, .int .i64 d.fuse, .bool d.off] 25)) (.cells #[.slice none 0 0, .slice none 0 0, .int .i64 0, .bool false] 25)
      rw [World.size_alloc, ← hX] at this
      exact this
    · rw [hX]; exact ((Below.refl _ w).alloc (Nat.le_refl _) _).alloc (by simp) _
  obtain ⟨S, hS⟩ : ∃ S : ByteArray, S = ⟨(catL zs).toArray⟩ := ⟨_, rfl⟩
  have hz : S.size = (catL zs).length := by rw [hS, size_list]
  rw [← hS] at cba
  have HS : Hid (S = ⟨(catL zs).toArray⟩ ∧ S.size = (catL zs).length ∧ (catL zs).length ≤ 14208) := ⟨hS, hz, (okR_inv hok).2⟩
  have hSi : (S.size : Int) ≤ 14208 := by have := HS.out.2.2; omega
  obtain ⟨c, hc⟩ : ∃ c, c = cntL (catL zs) := ⟨_, rfl⟩
  rw [← hc] at HR cne hbc hPl HPA
  have HC : Hid (c = cntL (catL zs)) := hc
  have HFU : Hid (d.fuse ≤ 9223372036854775807 ∧ Ok d) := ⟨hf.1.2, hOK⟩
  have HRO : Hid (2 + m + L ≤ d.secs.length ∧ d.secs.length ≤ 1024 ∧ b + c ≤ L ∧ (pagesR (t + b) zs).length = c) := ⟨hroom, h1024, hbc, hPl⟩
  generalize pagesR (t + b) zs = PS at HR HPA HRO
  generalize catL zs = l at HS HC HPA
  have HT : Hid (1 ≤ t ∧ t ≤ 4611686018427387904) := ⟨ht1, ht2⟩
  have hti : (t : Int) ≤ 4611686018427387904 := by omega
  have hti1 : 1 ≤ (t : Int) := by omega
  have hai : (a : Int) < 8 := by omega
  have hLi : (L : Int) ≤ 127 := by omega
  have hbi : (b : Int) ≤ (L : Int) := by have := HRO.out; omega
  have hci : (c : Int) ≤ (L : Int) - (b : Int) := by have := HRO.out; omega
  have hmi2 : (m : Int) ≤ 1024 := by have := HRO.out; omega
  clear hS hz hc hok hsx hcx h hf hOK hokb h10 h1024 hroom hbc hPl hhu hn9 hz9 ht1 ht2 hm hL127 ha8
  go_enter Try.func10, Try.ntmps10
  go_upto_region 1 with fail
  rw [← hX]
  clear hX
  obtain ⟨s5, s6, s7, s8, vb, hs, hc⟩ := HX.out.disk
  obtain ⟨q0, q1, q2, q3, qf⟩ := vb.cells
  go_wp2_with fail
  go_at_call 12; refine (clo _ _ ⟨_, _, rfl, hs, hc⟩).mono ?_; rintro e w1 ⟨rfl, hb1⟩
  have H1 : Hid (RwAt w w1 d) := HX.out.keep hb1
  clear q0 q1 q2 q3 qf vb hs hc HX hb1 clo
  obtain ⟨s5, s6, s7, s8, vb, hs, hc⟩ := H1.out.disk
  obtain ⟨q0, q1, q2, q3, qf⟩ := vb.cells
  go_wp2_with fail
  go_at_call 8; refine (ccp _ _ ⟨_, _, rfl, hs, hc⟩).mono ?_; rintro e w2 ⟨g1, g2, g3, g4, rfl, ho1, ho2, hb2⟩
  have hs2 : HasStrs w2 (.slice g1 d.secs.length g2) d.secs := Disk.hasRow_own ho1
  have hc2 : HasPuts w2 (.slice g3 d.cache.length g4) d.cache := Disk.hasRow_own ho2
  obtain ⟨X2, hX2⟩ : ∃ X, X = ((((w2.setCell ⟨w.heap.size, 0, none⟩ (.slice g1 d.secs.length g2)).setCell ⟨w.heap.size, 1, none⟩ (.slice g3 d.cache.length g4)).setCell ⟨w.heap.size, 2, none⟩ (.int .i64 d.fuse)).setCell ⟨w.heap.size, 3, none⟩ (.bool d.off)) := ⟨_, rfl⟩
  have H2 : Hid (RwAt w X2 d) := by rw [hX2]; exact (H1.out.keep hb2).store hs2 hc2
  have vb2 := vb.below hb2
  clear q0 q1 q2 q3 qf vb hs hc hs2 hc2 ho1 ho2 hb2 H1 ccp
  obtain ⟨q0, q1, q2, q3, qf⟩ := vb2.cells
  go_upto_region 5 with fail
  rw [← hX2]
  clear hX2 q0 q1 q2 q3 qf vb2
  go_wp2_with fail
  go_at_call 14; refine (cne _ H2.out.below).mono ?_; rintro e w3 ⟨rfl, hb3⟩
  have H3 : Hid (RwAt w w3 d) := H2.out.keep hb3
  clear hb3 H2 cne
  go_wp2_with fail
  go_at_call 31; refine (cba _ H3.out.below).mono ?_; rintro e w4 ⟨rfl, hb4⟩
  have H4 : Hid (RwAt w w4 d) := H3.out.keep hb4
  clear hb4 H3 cba
  go_wp2_with fail
  go_loopw [18] (fun i wr => ∃ (k : Nat) (D : Dk), k ≤ c ∧ i = .int .i64 k ∧ Hid (RwAt w wr D ∧ Ok D ∧ D.fuse ≤ 9223372036854775807 ∧ putAll d (2 + m + b) PS = putAll D (2 + m + b + k) (PS.drop k))) (fun i _ => c - (intOf i).toNat)
  case atStart => exact ⟨0, d, by omega, rfl, ⟨H4.out, HFU.out.2, HFU.out.1, rfl⟩⟩
  case round =>
    obtain ⟨k, D, hk, rfl, HV⟩ := hrel
    clear H4 HFU
    by_cases hlt : k < c
    · obtain ⟨hkz, hPk⟩ := HPA.out k hlt
      have hki : (k : Int) < (c : Int) := by omega
      obtain ⟨hv, hvo, hvf, hve⟩ := HV.out
      obtain ⟨p, hp⟩ : ∃ p, p = 111 * k := ⟨_, rfl⟩
      have hmS : p < S.size := by have h1 := HC.out; have h2 := HS.out.2; unfold cntL at h1; omega
      have hpk : (k : Int) * 111 = (p : Int) := by omega
      have hpi : (p : Int) < (S.size : Int) := by omega
      have hpk2 : ((k : Int) + 1) * 111 = (p : Int) + 111 := by omega
      have k1 : ∀ W, (Instr.slice 9 (.string S) (some (.int .i64 (p : Int))) (some (.int .i64 (min (S.size : Int) ((p : Int) + 111)))) none).run Try.prog W = .ok (.string ⟨(pieceL l k).toArray⟩) W := by
        intro W
        rw [slice_lh W S Try.underlying9 _ _ (by omega) (by omega) (by omega), ← extract_piece l k]
        rw [show ((p : Int)).toNat = 111 * k by omega, show (min (S.size : Int) ((p : Int) + 111)).toNat = min (111 * k + 111) l.length by have := HS.out.2; omega]
        rw [HS.out.1]
      have cp := fun W => Page.rput_any (t + b + k) (pieceL l k) W (by have := HT.out.2; have := HRO.out; omega) (by have := pieceL_len l k; omega)
      rw [putL_ok (by have := HT.out.1; omega) (pieceL_len l k), ← hPk] at cp
      unfold StrIs at cp
      simp only at cp
      have hle : PS[k].length = 128 := by rw [hPk]; exact Page.pageL_len _ _ (pieceL_len _ _)
      have cw := fun W v (hd : HasDk W v D) => (Disk.rwrite_any D v ((2 + m + b + k : Nat) : Int) PS[k] W hd (fits_ok hvo hvf) (by have := HRO.out; omega) (by omega)).mono (fun e w' h => back_of h)
      simp only [outD_ok hvo] at cw
      unfold Disk.strV at cw
      have HST := putAll_step D (2 + m + b) k PS hkz
      rw [← hve] at HST
      have HOW : Hid (Ok (writeD D ((2 + m + b + k : Nat) : Int) PS[k]).1 ∧ (writeD D ((2 + m + b + k : Nat) : Int) PS[k]).1.fuse ≤ 9223372036854775807) := ⟨Disk.write_ok hvo _ _, Disk.write_fuse hvf _ _⟩
      generalize writeD D ((2 + m + b + k : Nat) : Int) PS[k] = r at cw HST HOW
      obtain ⟨D2, y2⟩ := r
      unfold Back at cw
      simp only at cw HST HOW
      have HST2 : Hid (putAll d (2 + m + b) PS = if y2 = 0 then putAll D2 (2 + m + b + (k + 1)) (PS.drop (k + 1)) else (D2, y2)) := HST
      rw [show ((2 + m + b + k : Nat) : Int) = 2 + (m : Int) + (b : Int) + (k : Int) by omega] at cw
      rw [show ((t + b + k : Nat) : Int) = (t : Int) + ((b : Int) + (k : Int)) by omega] at cp
      generalize (⟨(PS[k]).toArray⟩ : ByteArray) = Pk at cw cp
      generalize (⟨(pieceL l k).toArray⟩ : ByteArray) = Pc at k1 cp
      have e1 : IntKind.u64.wrap ((b : Int) + (k : Int)) = (b : Int) + (k : Int) := by rw [IntKind.wrap_u64]; omega
      have e2 : IntKind.u64.wrap ((t : Int) + ((b : Int) + (k : Int))) = (t : Int) + ((b : Int) + (k : Int)) := by rw [IntKind.wrap_u64]; omega
      have e3 : IntKind.i64.wrap (p : Int) = (p : Int) := by rw [IntKind.wrap_i64]; omega
      have e4 : IntKind.i64.wrap ((p : Int) + 111) = (p : Int) + 111 := by rw [IntKind.wrap_i64]; omega
      have e5 : IntKind.i64.wrap (m : Int) = (m : Int) := by rw [IntKind.wrap_i64]; omega
      clear HST hve hvo hvf hle hPk hp
      go_wp2_with fail
      go_at_call 32; refine (cp _).mono ?_; rintro e w5 ⟨rfl, hb5⟩
      have HV5 : Hid (RwAt w w5 D) := hv.keep hb5
      clear hv hb5 cp k1 HV
      obtain ⟨s5, s6, s7, s8, vb, hs, hc⟩ := HV5.out.disk
      obtain ⟨q0, q1, q2, q3, qf⟩ := vb.cells
      go_wp2_with fail
      go_at_call 33; refine (cw _ _ ⟨_, _, rfl, hs, hc⟩).mono ?_; rintro e w6 ⟨a1, a2, a3, a4, rfl, hs6, hc6, hb6⟩
      obtain ⟨X6, hX6⟩ : ∃ X, X = w6.alloc (.cells #[.slice a1 D2.secs.length a2, .slice a3 D2.cache.length a4, .int .i64 D2.fuse, .bool D2.off] 25) := ⟨_, rfl⟩
      obtain ⟨b6, hb6'⟩ : ∃ b, b = w6.heap.size := ⟨_, rfl⟩
      have hbX : Below w6.heap.size w6 X6 := by rw [hX6]; exact (Below.refl _ _).alloc (Nat.le_refl _) _
      have HV6 : Hid (RwAt w X6 D) := HV5.out.keep (below2 hb6 hbX)
      have VE : VBox X6 b6 (.slice a1 D2.secs.length a2) (.slice a3 D2.cache.length a4) (.int .i64 D2.fuse) (.bool D2.off) := by rw [hX6, hb6']; exact World.alloc_heap_new _ _
      have HSX : Hid (HasStrs X6 (.slice a1 D2.secs.length a2) D2.secs ∧ HasPuts X6 (.slice a3 D2.cache.length a4) D2.cache) := ⟨hs6.keep hbX, hc6.keep hbX⟩
      clear q0 q1 q2 q3 qf vb hs hc HV5 cw
      go_upto_region 18 with fail
      rw [← hX6, ← hb6']
      clear hX6 hb6' hbX hs6 hc6 hb6
      obtain ⟨s5, s6, s7, s8, vb, hs, hc⟩ := HV6.out.disk
      obtain ⟨q0, q1, q2, q3, qf⟩ := vb.cells
      obtain ⟨z0, z1, z2, z3, zf⟩ := VE.cells
      obtain ⟨X7, hX7⟩ : ∃ X, X = ((((X6.setCell ⟨w.heap.size, 0, none⟩ (.slice a1 D2.secs.length a2)).setCell ⟨w.heap.size, 1, none⟩ (.slice a3 D2.cache.length a4)).setCell ⟨w.heap.size, 2, none⟩ (.int .i64 D2.fuse)).setCell ⟨w.heap.size, 3, none⟩ (.bool D2.off)) := ⟨_, rfl⟩
      have HV7 : Hid (RwAt w X7 D2) := by rw [hX7]; exact HV6.out.store HSX.out.1 HSX.out.2
      go_upto_region 19 with fail
      rw [← hX7]
      clear hX7 q0 q1 q2 q3 qf vb hs hc HV6 HSX z0 z1 z2 z3 zf VE
      by_cases hy : y2 = 0
      · subst hy
        have HP2 : Hid (putAll d (2 + m + b) PS = putAll D2 (2 + m + b + (k + 1)) (PS.drop (k + 1))) := by show _ = _; rw [HST2.out, if_pos rfl]
        go_wp2_with fail
        go_roundw
        case rel => exact ⟨k + 1, D2, by omega, by go_num, ⟨HV7.out, HOW.out.1, HOW.out.2, HP2.out⟩⟩
        case measure => simp [intOf]; omega
      · have hP2 : putAll d (2 + m + b) PS = (D2, y2) := by rw [HST2.out, if_neg hy]
        have hRR : R = (D2, 0, y2) := by rw [HR.out, hP2, if_neg hy]
        have hv := HV7.out
        obtain ⟨s5, s6, s7, s8, vb, hs, hc⟩ := hv.disk
        obtain ⟨q0, q1, q2, q3, qf⟩ := vb.cells
        obtain ⟨z0, z1, z2, z3, zf⟩ := hv.res.cells
        have HO1 := hv.out hs hc
        have HO : Hid _ := HO1
        clear HO1
        subst hRR
        clear hP2 HST2 HR HV7 hv hs hc vb HPA HS HC
        go_wp2
        (try simp only [Exit.inBlock, Exit.then])
        refine bodyPost_ret (v := .tuple #[.agg #[.slice s5 D2.secs.length s6, .slice s7 D2.cache.length s8, .int .i64 D2.fuse, .bool D2.off], .int .i64 0, .int .i64 y2]) ?_ rfl ⟨_, rfl, HO.out.1, HO.out.2⟩
        rw [results_cell_tmp2 rfl]
        go_simp
    · obtain rfl : k = c := by omega
      obtain ⟨hv, hvo, hvf, hve⟩ := HV.out
      obtain ⟨s5, s6, s7, s8, vb, hs, hc⟩ := hv.disk
      obtain ⟨q0, q1, q2, q3, qf⟩ := vb.cells
      obtain ⟨z0, z1, z2, z3, zf⟩ := hv.res.cells
      have hRR : R = (D, b + k, 0) := by
        rw [HR.out, hve, List.drop_of_length_le (by rw [HRO.out.2.2.2]; exact Nat.le_refl _), putAll]; rfl
      have HO1 := hv.out hs hc
      have HO : Hid _ := HO1
      clear HO1
      subst hRR
      clear hv hvo hvf hve hs hc vb HR HV HPA HS HC
      go_wp2
      (try simp only [Exit.inBlock, Exit.then])
      refine bodyPost_ret (v := .tuple #[.agg #[.slice s5 D.secs.length s6, .slice s7 D.cache.length s8, .int .i64 D.fuse, .bool D.off], .int .i64 ((b : Int) + (k : Int)), .int .i64 0]) ?_ rfl ⟨_, by simp, HO.out.1, HO.out.2⟩
      rw [results_cell_tmp2 rfl]
      go_simp
end Go.Proofs.Ytbikcpchlgmoaaa.Seg
namespace Go.Proofs.Ytbikcpchlgmoaaa.Seg
open Go.RowKit Go.Shelf
open Go.Proofs.Ytbikcpchlgmoaaa.Disk (Dk Ok okB ok_of ok_mk writeD flushD crashD settleF wholeF cutIn partN partN_le inB offAfter spendE spendF allH allH_len settleF_other settleF_len PutT zeroS)
open Go.Proofs.Ytbikcpchlgmoaaa.Page (pageL pageL_len pieceL pieceL_len cntL getL getL_page getL_inv getL_tag tagL eightL torn_new joinL two64 pieces_take pagesL)
open Go.Proofs.Ytbikcpchlgmoaaa.Frame (catL allL frameL)

/-- writes that wait for one sector -/
def hits (d : Dk) (x : Nat) : List PutT := d.cache.filter (fun q => q.1 == (x : Int))
structure Cl (d : Dk) (x : Nat) (z : List UInt8) : Prop where
  sec : d.secs[x]? = some z
  no : hits d x = []
structure Pd (d : Dk) (x : Nat) (z p : List UInt8) : Prop where
  sec : d.secs[x]? = some z
  one : hits d x = [((x : Int), p)]
theorem no_hits {ps : List PutT} {x : Nat} (h : ps.filter (fun q => q.1 == (x : Int)) = []) : ∀ p ∈ ps, p.1 ≠ (x : Int) := by
  intro p hp hc
  have : p ∈ ps.filter (fun q => q.1 == (x : Int)) := List.mem_filter.2 ⟨hp, by simp [hc]⟩
  rw [h] at this
  simp at this
theorem settle_cl (part : Nat → Nat) (x : Nat) (ps : List PutT) (i : Nat) (secs : List (List UInt8)) (h0 : ∀ p ∈ ps, 0 ≤ p.1) (h : ps.filter (fun q => q.1 == (x : Int)) = []) : (settleF part i secs ps)[x]? = secs[x]? :=
  settleF_other part x ps i secs (fun p hp => ⟨h0 p hp, no_hits h p hp⟩)
theorem settle_pd (part : Nat → Nat) (x : Nat) (z p : List UInt8) (ps : List PutT) : ∀ (i : Nat) (secs : List (List UInt8)), (∀ p ∈ ps, 0 ≤ p.1) → ps.filter (fun q => q.1 == (x : Int)) = [((x : Int), p)] → secs[x]? = some z →
    ∃ j, (settleF part i secs ps)[x]? = some (cutIn (part j) p z) := by
  induction ps with
  | nil => intro i secs _ h; simp at h
  | cons q ps ih =>
    intro i secs h0 h hz
    have hxl : x < secs.length := (List.getElem?_eq_some_iff.1 hz).1
    rw [settleF]
    by_cases hq : q.1 = (x : Int)
    · rw [List.filter_cons_of_pos (by simp [hq])] at h
      injection h with e1 e2
      rw [settle_cl part x ps _ _ (fun p hp => h0 p (by simp [hp])) e2, e1]
      refine ⟨i, ?_⟩
      simp only [Int.toNat_natCast]
      rw [List.getElem?_set, if_pos rfl, if_pos hxl, List.getD_eq_getElem?_getD, hz]
      rfl
    · rw [List.filter_cons_of_neg (by simpa using hq)] at h
      refine ih _ _ (fun p hp => h0 p (by simp [hp])) h ?_
      have := h0 q (by simp)
      rw [List.getElem?_set, if_neg (by omega)]
      exact hz
theorem ok_pos {d : Dk} (h : Ok d) : ∀ p ∈ d.cache, 0 ≤ p.1 := fun p hp => (of_decide_eq_true (h.puts p hp).1).1

structure Sg (N B L T M : Nat) (old : Nat → List UInt8) (ds : List (List UInt8)) (F : Nat) (d : Dk) : Prop where
  ok : Ok d
  fuse : d.fuse = -1
  off : d.off = false
  len : d.secs.length = N
  room : B + L ≤ N
  few : ds.length ≤ L
  small : ∀ x ∈ ds, x.length ≤ 111
  fl : F ≤ ds.length
  wide : d.cache.length ≤ M + ds.length
  most : M + L ≤ 4000
  tag0 : 1 ≤ T
  tag1 : T + L < 18446744073709551616
  olds : ∀ k, k < L → (old k).length = 128 ∧ (old k).drop 120 ≠ eightL (T + k)
  done : ∀ k, k < F → Cl d (B + k) (pageL (T + k) (ds.getD k []))
  pend : ∀ k, F ≤ k → k < ds.length → Pd d (B + k) (old k) (pageL (T + k) (ds.getD k []))
  rest : ∀ k, ds.length ≤ k → k < L → Cl d (B + k) (old k)
theorem getD_snoc_lt {α : Type} (l : List α) (x z : α) (k : Nat) (h : k < l.length) : (l ++ [x]).getD k z = l.getD k z := by
  rw [List.getD_eq_getElem?_getD, List.getD_eq_getElem?_getD, List.getElem?_append_left h]
theorem getD_snoc_eq {α : Type} (l : List α) (x z : α) : (l ++ [x]).getD l.length z = x := by
  rw [List.getD_eq_getElem?_getD, List.getElem?_append_right (Nat.le_refl _)]; simp
/-- a write behind all -/
theorem Sg.write {N B L T M : Nat} {old : Nat → List UInt8} {ds : List (List UInt8)} {F : Nat} {d : Dk} (h : Sg N B L T M old ds F d) (x : List UInt8) (hx : x.length ≤ 111) (hl : ds.length < L) :
    ∃ d2, writeD d ((B + ds.length : Nat) : Int) (pageL (T + ds.length) x) = (d2, 0) ∧ Sg N B L T M old (ds ++ [x]) F d2 := by
  have hin : inB d.secs.length ((B + ds.length : Nat) : Int) = true := decide_eq_true (by rw [h.len]; have := h.room; omega)
  have hpl : (pageL (T + ds.length) x).length = 128 := pageL_len _ _ hx
  have e : writeD d ((B + ds.length : Nat) : Int) (pageL (T + ds.length) x) = (⟨d.secs, d.cache ++ [(((B + ds.length : Nat) : Int), pageL (T + ds.length) x)], -1, false⟩, 0) := by
    rw [writeD, if_neg (by rw [h.off]; simp), if_neg (by rw [hin]; simp), if_neg (by simp [hpl]), if_neg (by have := h.wide; have := h.most; omega), h.fuse, h.off]
    rfl
  refine ⟨_, e, ?_⟩
  have hok := Disk.write_ok h.ok ((B + ds.length : Nat) : Int) (pageL (T + ds.length) x)
  rw [e] at hok
  have hh : ∀ y, hits (⟨d.secs, d.cache ++ [(((B + ds.length : Nat) : Int), pageL (T + ds.length) x)], -1, false⟩ : Dk) y = hits d y ++ (if y = B + ds.length then [(((B + ds.length : Nat) : Int), pageL (T + ds.length) x)] else []) := by
    intro y
    unfold hits
    rw [List.filter_append]
    congr 1
    by_cases hy : y = B + ds.length
    · rw [if_pos hy, hy]; simp
    · rw [if_neg hy]
      have : (((B + ds.length : Nat) : Int) == (y : Int)) = false := by rw [beq_eq_false_iff_ne]; omega
      simp only [List.filter_cons, List.filter_nil, this]
      rfl
  refine ⟨hok, rfl, rfl, h.len, h.room, ?_, ?_, ?_, ?_, h.most, h.tag0, h.tag1, h.olds, ?_, ?_, ?_⟩
  · rw [List.length_append]; simp; omega
  · intro y hy
    rw [List.mem_append, List.mem_singleton] at hy
    rcases hy with hy | rfl
    · exact h.small y hy
    · exact hx
  · rw [List.length_append]; have := h.fl; omega
  · show (d.cache ++ _).length ≤ _
    rw [List.length_append, List.length_append]; have := h.wide; simp; omega
  · intro k hk
    have hf := h.fl
    have c := h.done k hk
    rw [getD_snoc_lt _ _ _ _ (by omega)]
    exact ⟨c.sec, by rw [hh, c.no, if_neg (by omega)]; rfl⟩
  · intro k h1 h2
    rw [List.length_append, List.length_singleton] at h2
    by_cases hk : k < ds.length
    · have c := h.pend k h1 hk
      rw [getD_snoc_lt _ _ _ _ hk]
      exact ⟨c.sec, by rw [hh, c.one, if_neg (by omega)]; rfl⟩
    · obtain rfl : k = ds.length := by omega
      have c := h.rest ds.length (Nat.le_refl _) hl
      rw [getD_snoc_eq]
      exact ⟨c.sec, by rw [hh, c.no, if_pos rfl]; rfl⟩
  · intro k h1 h2
    rw [List.length_append, List.length_singleton] at h1
    have c := h.rest k (by omega) h2
    exact ⟨c.sec, by rw [hh, c.no, if_neg (by omega)]; rfl⟩
/-- pages of data, from a tag on -/
def pgs : Nat → List (List UInt8) → List (List UInt8)
  | _, [] => []
  | t, x :: xs => pageL t x :: pgs (t + 1) xs
theorem Sg.writes {N B L T M : Nat} {old : Nat → List UInt8} {F : Nat} : ∀ (xs ds : List (List UInt8)) (d : Dk), Sg N B L T M old ds F d → (∀ x ∈ xs, x.length ≤ 111) → ds.length + xs.length ≤ L →
    ∃ d2, putAll d (B + ds.length) (pgs (T + ds.length) xs) = (d2, 0) ∧ Sg N B L T M old (ds ++ xs) F d2
  | [], ds, d, h, _, _ => ⟨d, rfl, by rw [List.append_nil]; exact h⟩
  | x :: xs, ds, d, h, hx, hl => by
    rw [List.length_cons] at hl
    obtain ⟨d2, e, h2⟩ := h.write x (hx x (by simp)) (by omega)
    obtain ⟨d3, e3, h3⟩ := Sg.writes xs (ds ++ [x]) d2 h2 (fun y hy => hx y (by simp [hy])) (by rw [List.length_append, List.length_singleton]; omega)
    rw [List.length_append, List.length_singleton] at e3
    refine ⟨d3, ?_, by rw [List.append_assoc] at h3; exact h3⟩
    rw [pgs, putAll, e, if_pos rfl]
    exact e3
theorem pgs_eq (l : List UInt8) (t : Nat) : ∀ (ks : List Nat), pagesL l t ks = pgs t (ks.map (pieceL l)) := by
  intro ks
  induction ks generalizing t with
  | nil => rfl
  | cons k ks ih =>
    rw [List.map_cons, pgs, ← ih]
    unfold pagesL
    rw [List.mapIdx_cons]
    congr 1
    apply List.ext_getElem
    · simp
    · intro i h1 h2; simp; congr 1; omega
/-- the pieces of a batch -/
def pcs (zs : List (List UInt8)) : List (List UInt8) := (List.range (cntL (catL zs))).map (pieceL (catL zs))
theorem pcs_len (zs : List (List UInt8)) : (pcs zs).length = cntL (catL zs) := by simp [pcs]
theorem pcs_small (zs : List (List UInt8)) : ∀ x ∈ pcs zs, x.length ≤ 111 := by
  intro x hx
  obtain ⟨k, _, rfl⟩ := List.mem_map.1 hx
  exact pieceL_len _ _
theorem pcs_flat (zs : List (List UInt8)) : (pcs zs).flatten = catL zs := by
  unfold pcs
  rw [pieces_take, List.take_of_length_le (by unfold cntL; omega)]
theorem pages_pcs (T : Nat) (zs : List (List UInt8)) : pagesR T zs = pgs T (pcs zs) := by unfold pagesR pcs; exact pgs_eq _ _ _
/-- flushed -/
theorem Sg.flush {N B L T M : Nat} {old : Nat → List UInt8} {ds : List (List UInt8)} {F : Nat} {d : Dk} (h : Sg N B L T M old ds F d) :
    ∃ d2, flushD d = (d2, 0) ∧ Sg N B L T M old ds ds.length d2 := by
  have e : flushD d = (⟨allH d, [], -1, false⟩, 0) := by
    rw [flushD, h.fuse, h.off]
    rfl
  refine ⟨_, e, ?_⟩
  have hok := Disk.flush_ok h.ok
  rw [e] at hok
  have cw : ∀ (p z : List UInt8), p.length = 128 → z.length = 128 → cutIn 128 p z = p := fun p z hp hz => by
    unfold cutIn; rw [List.take_of_length_le (by omega), List.drop_of_length_le (by omega), List.append_nil]
  have hcl : ∀ x z, Cl d x z → (allH d)[x]? = some z := fun x z c => by
    unfold allH; rw [settle_cl _ _ _ _ _ (ok_pos h.ok) c.no]; exact c.sec
  refine ⟨hok, rfl, rfl, by show (allH d).length = N; rw [allH_len]; exact h.len, h.room, h.few, h.small, Nat.le_refl _, by show 0 ≤ _; omega, h.most, h.tag0, h.tag1, h.olds, ?_, ?_, ?_⟩
  · intro k hk
    refine ⟨?_, rfl⟩
    by_cases hf : k < F
    · exact hcl _ _ (h.done k hf)
    · have c := h.pend k (by omega) hk
      have hsm : (ds.getD k []).length ≤ 111 := by
        rw [List.getD_eq_getElem?_getD, List.getElem?_eq_getElem hk]; exact h.small _ (List.getElem_mem hk)
      obtain ⟨j, hj⟩ := settle_pd wholeF (B + k) (old k) _ d.cache 0 d.secs (ok_pos h.ok) c.one c.sec
      show (allH d)[B + k]? = _
      unfold allH
      rw [hj]
      have : wholeF j = 128 := rfl
      rw [this, cw _ _ (pageL_len _ _ hsm) (h.olds k (by have := h.few; omega)).1]
  · intro k h1 h2; omega
  · intro k h1 h2
    exact ⟨hcl _ _ (h.rest k h1 h2), rfl⟩
end Go.Proofs.Ytbikcpchlgmoaaa.Seg
namespace Go.Proofs.Ytbikcpchlgmoaaa.Seg
open Go.RowKit Go.Shelf
open Go.Proofs.Ytbikcpchlgmoaaa.Disk (Dk Ok okB ok_of ok_mk writeD flushD crashD settleF wholeF cutIn partN partN_le inB offAfter spendE spendF allH allH_len settleF_other settleF_len PutT zeroS)
open Go.Proofs.Ytbikcpchlgmoaaa.Page (pageL pageL_len pageL_end pieceL pieceL_len cntL getL getL_page getL_inv getL_tag tagL tagL_inv eightL torn_new joinL joinL_ok joinL_bad two64 pieces_take pagesL eight_inj)
open Go.Proofs.Ytbikcpchlgmoaaa.Frame (catL allL frameL cutN cutN_le cutN_iff all_cut)

theorem old_no {o : List UInt8} {t : Nat} (h : o.drop 120 ≠ eightL t) : (getL o t).2 ≠ 0 := by
  intro hc
  exact h (tagL_inv (getL_tag hc)).2.2.1
/-- sectors that hold pages as far as they do -/
structure Read (cs ds : List (List UInt8)) (T F : Nat) : Prop where
  is : ∀ k (hk : k < cs.length), (getL cs[k] (T + k)).2 = 0 → k < ds.length ∧ (getL cs[k] (T + k)).1 = ds.getD k []
  all : ∀ k (hk : k < cs.length), k < F → (getL cs[k] (T + k)).2 = 0
  len : F ≤ cs.length
  tag : T + cs.length < 18446744073709551616
theorem join_pre : ∀ (cs ds : List (List UInt8)) (T F : Nat), Read cs ds T F → ∃ j, F ≤ j ∧ j ≤ ds.length ∧ joinL cs T = ((ds.take j).flatten, j)
  | [], ds, T, F, h => ⟨0, h.len, Nat.zero_le _, rfl⟩
  | c :: cs, ds, T, F, h => by
    by_cases hg : (getL c T).2 = 0
    · have h0 := h.is 0 (by simp) (by simpa using hg)
      match ds, h0 with
      | x :: ds', h0 =>
        have hx : getL c T = (x, 0) := by
          have e : (getL c T).1 = x := by have := h0.2; simpa using this
          rw [← e, ← hg]
        have ht := h.tag
        rw [List.length_cons] at ht
        obtain ⟨j, hj1, hj2, hj3⟩ := join_pre cs ds' (T + 1) (F - 1) ⟨fun k hk hz => by
            have hh := h.is (k + 1) (by simp; omega) (by rw [List.getElem_cons_succ, show T + (k + 1) = T + 1 + k by omega]; exact hz)
            rw [List.getElem_cons_succ, show T + (k + 1) = T + 1 + k by omega] at hh
            exact ⟨by have := hh.1; simp at this; omega, by simpa using hh.2⟩,
          fun k hk hkf => by
            have hh := h.all (k + 1) (by simp; omega) (by omega)
            rw [List.getElem_cons_succ, show T + (k + 1) = T + 1 + k by omega] at hh
            exact hh, by have := h.len; simp at this; omega, by omega⟩
        refine ⟨j + 1, by omega, by simp; omega, ?_⟩
        rw [joinL_ok hx, Nat.mod_eq_of_lt (by unfold two64; omega), hj3]
        simp
    · refine ⟨0, ?_, Nat.zero_le _, joinL_bad hg⟩
      apply Classical.byContradiction
      intro hF
      exact hg (by have := h.all 0 (by simp) (by omega); simpa using this)
/-- where records and pages meet -/
structure Meet (ds all : List (List UInt8)) (F safe : Nat) : Prop where
  flat : ds.flatten = catL all
  part : (ds.take F).flatten = catL (all.take safe)
  le : safe ≤ all.length
  small : ∀ z ∈ all, z.length ≤ 4096
theorem flat_mono (ds : List (List UInt8)) (i j : Nat) (h : i ≤ j) : (ds.take i).flatten.length ≤ (ds.take j).flatten.length := by
  have : ds.take j = ds.take i ++ (ds.take j).drop i := by
    have e := (List.take_append_drop i (ds.take j)).symm
    rw [List.take_take, Nat.min_eq_left h] at e
    exact e
  rw [this, List.flatten_append, List.length_append]; omega
theorem meet_scan {ds all : List (List UInt8)} {F safe j : Nat} (h : Meet ds all F safe) (hj : F ≤ j) (hjl : j ≤ ds.length) :
    ∃ n, safe ≤ n ∧ n ≤ all.length ∧ (allL (ds.take j).flatten).1 = all.take n ∧ (j = ds.length → n = all.length) := by
  have e : (ds.take j).flatten = (catL all).take (ds.take j).flatten.length := by
    rw [← h.flat]
    have : ds.flatten = (ds.take j).flatten ++ (ds.drop j).flatten := by rw [← List.flatten_append, List.take_append_drop]
    rw [this, List.take_left]
  have hc := all_cut all h.small (ds.take j).flatten.length
  rw [← e] at hc
  refine ⟨cutN all (ds.take j).flatten.length, ?_, cutN_le _ _, by rw [hc], ?_⟩
  · have hm := flat_mono ds F j hj
    rw [h.part] at hm
    by_cases h0 : safe = 0
    · omega
    · have := (cutN_iff all (ds.take j).flatten.length (safe - 1) (by have := h.le; omega)).2 (by rw [show safe - 1 + 1 = safe by omega]; exact hm)
      omega
  · intro hjd
    apply Nat.le_antisymm (cutN_le _ _)
    rw [hjd, List.take_length, h.flat]
    by_cases h0 : all.length = 0
    · omega
    · have := (cutN_iff all (catL all).length (all.length - 1) (by omega)).2 (by rw [show all.length - 1 + 1 = all.length by omega, List.take_length]; exact Nat.le_refl _)
      omega
theorem seg_get {secs : List (List UInt8)} {B L k : Nat} (h : k < L) : ((secs.drop B).take L)[k]? = secs[B + k]? := by
  rw [List.getElem?_take, if_pos h, List.getElem?_drop]
/-- what is scanned where the sectors of the segment hold pages as far as they do -/
theorem scan_read {d : Dk} {s L T F safe : Nat} {ds all : List (List UInt8)} (hok : Ok d) (hoff : d.off = false) (hca : d.cache = []) (h10 : 10 ≤ d.secs.length) (hs : s < 8) (hL : L = (d.secs.length - 2) / 8)
    (hr : Read (((d.secs).drop (2 + s * L)).take L) ds T F) (hm : Meet ds all F safe) : ∃ n p, safe ≤ n ∧ n ≤ all.length ∧ scanD d (s : Int) T = (all.take n, p, 0) ∧ p ≤ ds.length ∧ (F = ds.length → n = all.length) := by
  have hlo : longE d = (L, 0) := by rw [longE_ok (ok_mk hok) (by omega), hL]
  have hah : allH d = d.secs := by unfold allH; rw [hca]; rfl
  obtain ⟨j, hj1, hj2, hj3⟩ := join_pre _ _ _ _ hr
  obtain ⟨n, hn1, hn2, hn3, hn4⟩ := meet_scan hm hj1 hj2
  have ht : textD d (s : Int) T = ((ds.take j).flatten, j, 0) := by
    rw [textD, hlo, if_pos rfl, if_neg (by rw [hoff]; simp), if_pos (by unfold segB; exact decide_eq_true ⟨by omega, by omega⟩)]
    unfold segL
    rw [hlo, hah, Int.toNat_natCast, hj3]
  refine ⟨n, j, hn1, hn2, ?_, hj2, fun hF => hn4 (by omega)⟩
  rw [scanD, ht, if_pos rfl, hn3]
theorem Sg.cell {N B L T M : Nat} {old : Nat → List UInt8} {ds : List (List UInt8)} {F : Nat} {d : Dk} (h : Sg N B L T M old ds F d) (k : Nat) (hk : k < ds.length) : (ds.getD k []).length ≤ 111 := by
  rw [List.getD_eq_getElem?_getD, List.getElem?_eq_getElem hk]; exact h.small _ (List.getElem_mem hk)
theorem Sg.getp {N B L T M : Nat} {old : Nat → List UInt8} {ds : List (List UInt8)} {F : Nat} {d : Dk} (h : Sg N B L T M old ds F d) (k : Nat) (hk : k < ds.length) : getL (pageL (T + k) (ds.getD k [])) (T + k) = (ds.getD k [], 0) :=
  getL_page (by have := h.tag0; omega) (by have := h.tag1; have := h.few; omega) (h.cell k hk)
/-- behind a crash -/
theorem Sg.crash {N B L T M : Nat} {old : Nat → List UInt8} {ds : List (List UInt8)} {F : Nat} {d : Dk} (h : Sg N B L T M old ds F d) (keep : List Bool) (torn bytes : Int) :
    Read ((((crashD d keep torn bytes).1.secs).drop B).take L) ds T F := by
  have hlen : (crashD d keep torn bytes).1.secs.length = N := by show (settleF _ _ _ _).length = N; rw [settleF_len]; exact h.len
  have hl : ((((crashD d keep torn bytes).1.secs).drop B).take L).length = L := by rw [List.length_take, List.length_drop, hlen]; have := h.room; omega
  have key : ∀ k, k < L → ∃ c, (crashD d keep torn bytes).1.secs[B + k]? = some c ∧ ((getL c (T + k)).2 = 0 → k < ds.length ∧ (getL c (T + k)).1 = ds.getD k []) ∧ (k < F → (getL c (T + k)).2 = 0) := by
    intro k hk
    show ∃ c, (settleF (partN keep torn bytes) 0 d.secs d.cache)[B + k]? = some c ∧ _
    have hfl := h.fl
    by_cases hf : k < F
    · have c := h.done k hf
      have g := h.getp k (by omega)
      refine ⟨_, by rw [settle_cl _ _ _ _ _ (ok_pos h.ok) c.no]; exact c.sec, fun _ => ⟨by omega, by rw [g]⟩, fun _ => by rw [g]⟩
    · by_cases hd : k < ds.length
      · have c := h.pend k (by omega) hd
        obtain ⟨j, hj⟩ := settle_pd (partN keep torn bytes) (B + k) (old k) _ d.cache 0 d.secs (ok_pos h.ok) c.one c.sec
        refine ⟨_, hj, fun hz => ⟨hd, ?_⟩, fun hk2 => absurd hk2 hf⟩
        have ho := h.olds k hk
        have := torn_new (s := pageL (T + k) (ds.getD k [])) (o := old k) (t := T + k) rfl (h.cell k hd) ho.1 (partN_le keep torn bytes j) ho.2 (getL_tag hz)
        unfold cutIn
        rw [this, h.getp k hd]
      · have c := h.rest k (by omega) hk
        exact ⟨_, by rw [settle_cl _ _ _ _ _ (ok_pos h.ok) c.no]; exact c.sec, fun hz => absurd hz (old_no (h.olds k hk).2), fun hk2 => by omega⟩
  refine ⟨fun k hk hz => ?_, fun k hk hkf => ?_, by rw [hl]; have := h.fl; have := h.few; omega, by rw [hl]; exact h.tag1⟩
  · rw [hl] at hk
    obtain ⟨c, hc, h1, _⟩ := key k hk
    rw [← seg_get hk, List.getElem?_eq_getElem (by rw [hl]; exact hk)] at hc
    injection hc with hc
    rw [hc] at hz ⊢
    exact h1 hz
  · rw [hl] at hk
    obtain ⟨c, hc, _, h2⟩ := key k hk
    rw [← seg_get hk, List.getElem?_eq_getElem (by rw [hl]; exact hk)] at hc
    injection hc with hc
    rw [hc]
    exact h2 hkf
end Go.Proofs.Ytbikcpchlgmoaaa.Seg
namespace Go.Proofs.Ytbikcpchlgmoaaa.Seg
open Go.RowKit Go.Shelf
open Go.Proofs.Ytbikcpchlgmoaaa.Disk (Dk Ok okB ok_of ok_mk writeD flushD crashD settleF wholeF cutIn partN partN_le inB allH allH_len PutT zeroS makeD)
open Go.Proofs.Ytbikcpchlgmoaaa.Page (pageL pageL_len pageL_end pieceL cntL eightL eight_inj)
open Go.Proofs.Ytbikcpchlgmoaaa.Frame (catL)

theorem cat_app (a b : List (List UInt8)) : catL (a ++ b) = catL a ++ catL b := by unfold catL; rw [List.flatMap_append]
theorem Sg.long {N B L T M : Nat} {old : Nat → List UInt8} {ds : List (List UInt8)} {F : Nat} {d : Dk} (h : Sg N B L T M old ds F d) (h10 : 10 ≤ N) (hL : L = (N - 2) / 8) : longE d = (L, 0) := by
  rw [longE_ok (ok_mk h.ok) (by rw [h.len]; omega), h.len, hL]
theorem step_write {N L T M s : Nat} {old : Nat → List UInt8} {ds all zs : List (List UInt8)} {F safe : Nat} {d : Dk} (h : Sg N (2 + s * L) L T M old ds F d) (hm : Meet ds all F safe) (h10 : 10 ≤ N) (hL : L = (N - 2) / 8)
    (hw : (writeS d (s : Int) T (ds.length : Int) zs).2.2 = 0) :
    ∃ d2, writeS d (s : Int) T (ds.length : Int) zs = (d2, ds.length + (pcs zs).length, 0) ∧ Sg N (2 + s * L) L T M old (ds ++ pcs zs) F d2 ∧ Meet (ds ++ pcs zs) (all ++ zs) F safe := by
  have hlo := h.long h10 hL
  have hw2 := hw
  rw [writeS, hlo] at hw2
  simp only at hw2
  rw [if_pos trivial] at hw2
  have hmy : mayE L (s : Int) T (ds.length : Int) zs = 0 := by
    apply Classical.byContradiction
    intro hc
    rw [if_neg hc] at hw2
    exact hc hw2
  obtain ⟨_, _, ⟨b, hb, hbc⟩, hok⟩ := may_inv hmy
  have hb2 : b = ds.length := by omega
  subst hb2
  obtain ⟨d2, e2, h2⟩ := Sg.writes (pcs zs) ds d h (pcs_small zs) (by rw [pcs_len]; exact hbc)
  have hf := h.fl
  refine ⟨d2, ?_, h2, ?_⟩
  · rw [writeS, hlo]
    simp only
    rw [if_pos trivial, if_pos hmy, Int.toNat_natCast, Int.toNat_natCast, pages_pcs, e2, if_pos rfl, pcs_len]
  · refine ⟨by rw [List.flatten_append, hm.flat, pcs_flat, cat_app], ?_, by rw [List.length_append]; have := hm.le; omega, ?_⟩
    · rw [List.take_append_of_le_length hf, List.take_append_of_le_length hm.le]; exact hm.part
    · intro z hz
      rw [List.mem_append] at hz
      rcases hz with hz | hz
      · exact hm.small z hz
      · exact (okR_inv hok).1 z hz
theorem meet_flush {ds all : List (List UInt8)} {F safe : Nat} (h : Meet ds all F safe) : Meet ds all ds.length all.length :=
  ⟨h.flat, by rw [List.take_length, List.take_length, h.flat], Nat.le_refl _, h.small⟩
theorem meet_nil : Meet [] [] 0 0 := ⟨rfl, rfl, Nat.le_refl _, by simp⟩
theorem zero_end : zeroS.drop 120 = eightL 0 := by decide +kernel
theorem sg_make {n : Nat} (s L T M : Nat) (h10 : 10 ≤ n) (hn : n ≤ 1024) (hs : s < 8) (hL : L = (n - 2) / 8) (hT : 1 ≤ T) (hT2 : T + 127 < 18446744073709551616) (hM : M + L ≤ 4000) : Sg n (2 + s * L) L T M (fun _ => zeroS) [] 0 (makeD (n : Int)).1 := by
  have hmk := Disk.ok_make (n := (n : Int)) ⟨by omega, by omega⟩
  have hroom : 2 + s * L + L ≤ n := by rw [hL]; exact seg_room h10 hs
  have e : (makeD (n : Int)).1 = ⟨List.replicate n zeroS, [], -1, false⟩ := by rw [makeD, if_pos ⟨by omega, by omega⟩]; rfl
  refine ⟨hmk.1, hmk.2.2.2.1, hmk.2.2.2.2.1, by rw [hmk.2.2.1]; rfl, hroom, Nat.zero_le _, by simp, Nat.le_refl _, by rw [hmk.2.2.2.2.2]; exact Nat.zero_le _, hM, hT, by omega, fun k hk => ⟨rfl, ?_⟩, fun k hk => by omega, fun k h1 h2 => absurd h2 (by simp), fun k h1 h2 => ?_⟩
  · rw [zero_end]
    intro hc
    have := eight_inj (by decide) (by omega) hc
    omega
  · refine ⟨?_, ?_⟩
    · rw [e]; simp only; rw [List.getElem?_replicate, if_pos (by omega)]
    · rw [e]; rfl
/-- what a call of 'written' answers -/
structure Wn (N L T M s : Nat) (old : Nat → List UInt8) (ds all : List (List UInt8)) (F safe : Nat) (d : Dk) : Prop where
  sg : Sg N (2 + s * L) L T M old ds F d
  meet : Meet ds all F safe
end Go.Proofs.Ytbikcpchlgmoaaa.Seg
namespace Go.Proofs.Ytbikcpchlgmoaaa.Seg
open Go.RowKit Go.Shelf
open Go.Proofs.Ytbikcpchlgmoaaa.Disk (Dk HasDk VDk VBox HasRow HasStrs HasPuts addr_add below2 PutT putCs info_str)
open Go.Proofs.Ytbikcpchlgmoaaa.Frame (strV size_list)

def emptyV : Value := .string ⟨#[]⟩
/-- the block of a row that is owned, with its spare cells -/
def row0 (xs : List (List UInt8)) (cap : Nat) : List Value := xs.map strV ++ List.replicate (cap - xs.length) emptyV
def Own0 (W : World) (base : Nat) (v : Value) (xs : List (List UInt8)) : Prop :=
  (v = .slice none 0 0 ∧ xs = []) ∨ ∃ g cap, v = .slice (some ⟨g, 0, none⟩) xs.length cap ∧ base ≤ g ∧ W.heap[g]? = some (.cells (row0 xs cap).toArray 9 (0, 0)) ∧ xs.length ≤ cap ∧ cap ≤ maxLen
theorem row0_len {xs : List (List UInt8)} {cap : Nat} (h : xs.length ≤ cap) : (row0 xs cap).length = cap := by
  unfold row0; rw [List.length_append, List.length_map, List.length_replicate]; omega
theorem Own0.own {W : World} {base : Nat} {v : Value} {xs : List (List UInt8)} (h : Own0 W base v xs) : W.ownsRow base 9 1 v xs.length (xs.map strV) := by
  refine ⟨by simp, ?_⟩
  rcases h with ⟨rfl, rfl⟩ | ⟨g, cap, rfl, h1, h2, h3, h4⟩
  · exact .inl ⟨rfl, rfl⟩
  · refine .inr ⟨g, cap, _, rfl, h1, h2, h3, h4, ?_, ?_⟩
    · rw [List.size_toArray, row0_len h3]; omega
    · unfold row0; rw [Nat.mul_one, List.take_append_of_le_length (by simp), List.take_of_length_le (by simp)]
theorem Own0.form {W : World} {base : Nat} {v : Value} {xs : List (List UInt8)} (h : Own0 W base v xs) : ∃ o c, v = .slice o xs.length c ∧ xs.length ≤ c ∧ c ≤ 9223372036854775807 := by
  rcases h with ⟨rfl, rfl⟩ | ⟨g, cap, rfl, h1, h2, h3, h4⟩
  · exact ⟨none, 0, rfl, Nat.le_refl _, by decide⟩
  · exact ⟨_, _, rfl, h3, by unfold maxLen at h4; exact h4⟩
theorem Own0.kept {W W' : World} {base : Nat} {v : Value} {xs : List (List UInt8)} {r : Option Nat} (h : Own0 W base v xs) (hg : W.grownBy W' r) (hr : ∀ k, r = some k → k < base) : Own0 W' base v xs := by
  rcases h with h | ⟨g, cap, rfl, h1, h2, h3, h4⟩
  · exact .inl h
  · refine .inr ⟨g, cap, rfl, h1, ?_, h3, h4⟩
    have hlt : g < W.heap.size := (Array.getElem?_eq_some_iff.1 h2).1
    exact (hg.block g hlt (fun e => by have := hr g e.symm; omega)).trans h2
theorem Own0.below {W W' : World} {base : Nat} {v : Value} {xs : List (List UInt8)} (h : Own0 W base v xs) (hb : Below W.heap.size W W') : Own0 W' base v xs :=
  h.kept (Disk.grown_of hb) (fun k e => by cases e)
/-- what is no empty text stays -/
structure Keeps (W W' : World) (base : Nat) : Prop where
  cell : ∀ x j c, W.cell? ⟨x, j, none⟩ = some c → c ≠ emptyV → W'.cell? ⟨x, j, none⟩ = some c
  low : Below base W W'
  size : W.heap.size ≤ W'.heap.size
theorem Keeps.row {W W' : World} {base : Nat} (h : Keeps W W' base) {v : Value} {sz n : Nat} {cs : List Value} (hr : HasRow W v sz n cs) (hne : ∀ c ∈ cs, c ≠ emptyV) : HasRow W' v sz n cs := by
  refine ⟨hr.1, ?_⟩
  rcases hr.2 with h0 | ⟨a, cap, rfl, h1, h2, h3, h4⟩
  · exact .inl h0
  · refine .inr ⟨a, cap, rfl, h1, h2, fun hn => ⟨(h3 hn).1, Nat.lt_of_lt_of_le (h3 hn).2 h.size⟩, fun j hj => ?_⟩
    have hpos : 0 < n := by
      rcases Nat.eq_zero_or_pos n with rfl | hp
      · rw [Nat.zero_mul] at hj; omega
      · exact hp
    have e := h4 j hj
    have hjc : j < cs.length := by rw [hr.1]; exact hj
    obtain ⟨b, o, sp⟩ := a
    have hsp : sp = none := (h3 hpos).1
    subst hsp
    rw [addr_add] at e ⊢
    rw [List.getElem?_eq_getElem hjc] at e ⊢
    exact h.cell _ _ _ e (hne _ (List.getElem_mem hjc))
theorem str_ne {z : List UInt8} (h : z.length = 128) : Disk.strV z ≠ emptyV := by
  intro hc
  unfold Disk.strV emptyV at hc
  injection hc with hc
  injection hc with hc
  have : z = [] := by simpa using hc
  rw [this] at h; simp at h
theorem Keeps.strs {W W' : World} {base : Nat} (h : Keeps W W' base) {v : Value} {zs : List (List UInt8)} (hr : HasStrs W v zs) (hz : ∀ z ∈ zs, z.length = 128) : HasStrs W' v zs :=
  Keeps.row h hr (fun c hc => by obtain ⟨z, hz2, rfl⟩ := List.mem_map.1 hc; exact str_ne (hz z hz2))
theorem Keeps.puts {W W' : World} {base : Nat} (h : Keeps W W' base) {v : Value} {ps : List PutT} (hr : HasPuts W v ps) (hz : ∀ p ∈ ps, p.2.length = 128) : HasPuts W' v ps :=
  Keeps.row h hr (fun c hc => by
    obtain ⟨p, hp, h2⟩ := List.mem_flatMap.1 hc
    simp only [Disk.putC, List.mem_cons, List.not_mem_nil, or_false] at h2
    rcases h2 with rfl | rfl
    · intro e; cases e
    · exact str_ne (hz p hp))
theorem keeps_grown {W W' : World} {base : Nat} (hg : W.grownBy W' none) (hb : base ≤ W.heap.size) : Keeps W W' base := by
  have hB := Disk.below_of hg
  refine ⟨fun x j c hc _ => ?_, hB.mono hb, hB.size⟩
  have hx : x < W.heap.size := by
    rcases Nat.lt_or_ge x W.heap.size with h | h
    · exact h
    · simp [World.cell?, Array.getElem?_eq_none h] at hc
  rw [hB.cell (p := ⟨x, j, none⟩) hx]; exact hc
theorem src_cells {W : World} {a : Addr} {c : Nat} {zs : List (List UInt8)} (h : Frame.HasStrs W (.slice (some a) zs.length c) zs) : ∀ j u, (zs.map strV)[j]? = some u → W.cell? (a.add j) = some u := by
  intro j u hj
  obtain ⟨o, cap, e, g⟩ := h
  have hlt : j < zs.length := by have := (List.getElem?_eq_some_iff.1 hj).1; simpa using this
  obtain ⟨b, i, e1, q, _⟩ := g j hlt
  injection e with e2 _ _
  rw [e1] at e2
  injection e2 with e2
  subst e2
  rw [addr_add, q]
  rw [List.getElem?_map, List.getElem?_eq_getElem hlt] at hj
  exact hj
theorem below_new' (W : World) (o : Obj) : Below W.heap.size W (W.drew.alloc o) := by
  have h1 : Below W.heap.size W W.drew := ⟨rfl, rfl, rfl, Nat.le_refl _, fun _ _ => rfl⟩
  exact h1.alloc (Nat.le_refl _) _
theorem zero_row (n : Nat) : Builtin.zeroCells (Value.string ⟨#[]⟩).cells n = (List.replicate n emptyV).toArray := by
  apply Array.ext'
  simp [Builtin.zeroCells, Value.cells, emptyV]
  apply List.ext_getElem
  · simp
  · intro i h1 h2
    simp [Nat.mod_one]
theorem app0 {W : World} {base : Nat} {v u : Value} {xs zs : List (List UInt8)} (hown : Own0 W base v xs) (hsrc : Frame.HasStrs W u zs) (hz : ∀ l c, u = .slice none l c → c = 0) (hb : (xs.length + zs.length) * 16 ≤ 140737488355328) (hn : base ≤ W.heap.size) :
    ∃ ao ac w3, (∀ ty, (Builtin.append_ #[22, 22] ty #[v, u]).run Try.prog W = .ok (.slice ao (xs ++ zs).length ac) w3) ∧ Own0 w3 base (.slice ao (xs ++ zs).length ac) (xs ++ zs) ∧ W.grownBy w3 v.ownBlock ∧ Keeps W w3 base := by
  obtain ⟨i0, hi0, hz0, hz1, hz2⟩ := info_parts info_str
  have hsrc0 := hsrc
  obtain ⟨o, c, rfl, g⟩ := hsrc
  have hlen : (xs ++ zs).length = xs.length + zs.length := List.length_append
  have hz16 : i0.bytes = 16 := hz2
  cases o with
  | none =>
    have h0 : zs = [] := by
      cases zs with
      | nil => rfl
      | cons z zs => obtain ⟨b, i, e, _⟩ := g 0 (by simp); cases e
    subst h0
    obtain rfl := hz _ _ rfl
    obtain ⟨vo, vc, rfl, _, _⟩ := hown.form
    refine ⟨vo, vc, W, fun ty => ?_, by simpa using hown, World.grownBy.refl _ _, keeps_grown (World.grownBy.refl _ _) hn⟩
    have := run_append_owned_none (P := Try.prog) W base 22 ty 9 i0 1 Try.underlying22 hi0 _ xs.length _ hown.own
    simpa using this
  | some a =>
    have hcs := src_cells hsrc0
    have hone : ∀ x ∈ zs.map strV, x.oneCell' = true := by intro x hx; obtain ⟨z, _, rfl⟩ := List.mem_map.1 hx; rfl
    have hl1 : (zs.map strV).length = zs.length * i0.size := by rw [hz1]; simp
    rcases hown with ⟨rfl, rfl⟩ | ⟨gb, cap, rfl, h1, h2, h3, h4⟩
    · by_cases hzl : zs.length = 0
      · have hzn : zs = [] := List.eq_nil_of_length_eq_zero hzl
        subst hzn
        obtain ⟨v', w3, hrun, k1, k2, k3⟩ := run_append_own (P := Try.prog) W base 22 0 9 i0 (.string ⟨#[]⟩) 1 16 Try.underlying22 hi0 hz0 hz1 hz2 rfl (by decide) (.slice none 0 0) 0 [] (World.ownsRow_nil _ _ _ _) a 0 c [] (by simp) (by simp) (by simp) (by unfold maxLen; omega) (by omega) hn
        obtain rfl := k3.2 ⟨rfl, rfl⟩
        exact ⟨none, 0, w3, fun ty => hrun, .inl ⟨rfl, rfl⟩, k2, keeps_grown k2 hn⟩
      · have hr := fun ty => run_append_nil (P := Try.prog) W 22 ty 9 i0 (.string ⟨#[]⟩) Try.underlying22 hi0 hz0 a zs.length c (zs.map strV) hl1 hcs (by omega) (by simp at hb; omega) (by rw [hz16]; simp at hb; omega)
        have hcap := grownCap_ge W zs.length 0 9
        have hcap2 := grownCap_le_maxLen W zs.length 0 9 (by unfold maxLen; simp at hb; omega)
        have hg : W.grownBy (W.drew.alloc (.cells ((zs.map strV).toArray ++ Builtin.zeroCells (Value.string ⟨#[]⟩).cells (grownCap W zs.length 0 9 - zs.length)) 9)) none := Disk.grown_of (below_new' W _)
        refine ⟨some ⟨W.heap.size, 0, none⟩, grownCap W zs.length 0 9, _, fun ty => by rw [hr ty, List.nil_append], .inr ⟨W.heap.size, _, rfl, hn, ?_, by rw [List.nil_append]; exact hcap, hcap2⟩, hg, keeps_grown hg hn⟩
        rw [show W.heap.size = W.drew.heap.size from rfl, World.alloc_heap_new, zero_row, List.append_toArray]
        simp [row0]
    · by_cases hroom : xs.length + zs.length ≤ cap
      · have hr := fun ty => run_append_room (P := Try.prog) W 22 ty 9 i0 Try.underlying22 hi0 gb xs.length cap _ h2 a zs.length c (zs.map strV) hl1 hcs hone hroom (by rw [hz1, List.size_toArray, row0_len h3]; simp; omega)
        have hnew : ((row0 xs cap).toArray.toList.take (xs.length * i0.size) ++ zs.map strV ++ (row0 xs cap).toArray.toList.drop (xs.length * i0.size + (zs.map strV).length)) = row0 (xs ++ zs) cap := by
          rw [hz1, Nat.mul_one]
          unfold row0
          simp only [List.map_append, List.length_append, List.length_map]
          rw [List.take_append_of_le_length (by simp), List.take_of_length_le (by simp), ← List.drop_drop, List.drop_left' (by simp), List.drop_replicate, show cap - xs.length - zs.length = cap - (xs.length + zs.length) by omega]
        rw [hnew] at hr
        have hlt : gb < W.heap.size := (Array.getElem?_eq_some_iff.1 h2).1
        refine ⟨_, _, _, fun ty => by rw [hr ty, hlen], .inr ⟨gb, cap, rfl, h1, setRow_heap W gb _ _ _ _ h2, by rw [hlen]; exact hroom, h4⟩, ?_, ?_⟩
        · exact ⟨rfl, rfl, rfl, by simp [World.setRow], fun k hk hne => by
            simp only [World.setRow, Array.getElem?_modify]
            rw [if_neg (fun e => hne (by rw [e]; rfl))]⟩
        · refine ⟨fun x j cc hc hne => ?_, ⟨rfl, rfl, rfl, by simp [World.setRow], fun k hk => by simp only [World.setRow, Array.getElem?_modify]; rw [if_neg (by omega)]⟩, by simp [World.setRow]⟩
          by_cases hx : x = gb
          · subst hx
            have e1 := setRow_heap W x _ (row0 (xs ++ zs) cap).toArray _ _ h2
            have c1 : W.cell? ⟨x, j, none⟩ = (row0 xs cap)[j]? := by simp [World.cell?, h2]
            have c2 : (W.setRow x (row0 (xs ++ zs) cap).toArray).cell? ⟨x, j, none⟩ = (row0 (xs ++ zs) cap)[j]? := by simp [World.cell?, e1]
            rw [c1] at hc
            rw [c2, ← hc]
            by_cases hj : j < xs.length
            · unfold row0
              rw [List.getElem?_append_left (by simp; omega), List.getElem?_append_left (by simp; omega), List.map_append, List.getElem?_append_left (by simp; omega)]
            · exfalso
              unfold row0 at hc
              rw [List.getElem?_append_right (by simp; omega), List.getElem?_replicate] at hc
              split at hc
              · injection hc with hc; exact hne hc.symm
              · cases hc
          · rw [← hc]
            simp only [World.cell?, World.setRow, Array.getElem?_modify]
            rw [if_neg (fun e => hx e.symm)]
      · have hr := fun ty => run_append_grow (P := Try.prog) W 22 ty 9 i0 (.string ⟨#[]⟩) Try.underlying22 hi0 hz0 ⟨gb, 0, none⟩ xs.length cap (xs.map strV) (by rw [hz1]; simp) (fun j x hj => by
            rw [addr_add, Nat.zero_add]
            have c1 : W.cell? ⟨gb, j, none⟩ = (row0 xs cap)[j]? := by simp [World.cell?, h2]
            rw [c1]
            unfold row0
            rw [List.getElem?_append_left (List.getElem?_eq_some_iff.1 hj).1]
            exact hj) a zs.length c (zs.map strV) hl1 hcs (by omega) (by omega) (growslice_fits (by omega) (by rw [hz16]; exact hb))
        have hcap := grownCap_ge W (xs.length + zs.length) cap 9
        have hcap2 := grownCap_le_maxLen W (xs.length + zs.length) cap 9 (by unfold maxLen; omega)
        have hg : W.grownBy (W.drew.alloc (.cells ((xs.map strV).toArray ++ (zs.map strV).toArray ++ Builtin.zeroCells (Value.string ⟨#[]⟩).cells (grownCap W (xs.length + zs.length) cap 9 - (xs.length + zs.length))) 9)) none := Disk.grown_of (below_new' W _)
        refine ⟨_, _, _, fun ty => by rw [hr ty, hlen], .inr ⟨W.heap.size, _, rfl, hn, ?_, by rw [hlen]; exact hcap, hcap2⟩, Disk.grown_any hg _, keeps_grown hg hn⟩
        rw [show W.heap.size = W.drew.heap.size from rfl, World.alloc_heap_new, zero_row, List.append_toArray, List.append_toArray]
        unfold row0
        rw [List.map_append, hlen]
end Go.Proofs.Ytbikcpchlgmoaaa.Seg
namespace Go.Proofs.Ytbikcpchlgmoaaa.Seg
open Go.RowKit Go.Shelf
open Go.Proofs.Ytbikcpchlgmoaaa.Disk (Dk HasDk VDk VBox RBox Fits fits_ok Ok okB ok_of HasRow Back back_of writeD flushD outD_ok zeroD zeroD_has set4_grown set4_below below2 HasStrs HasPuts addr_add grown_drew)
open Go.Proofs.Ytbikcpchlgmoaaa.Page (pageL pieceL pieceL_len cntL)
open Go.Proofs.Ytbikcpchlgmoaaa.Frame (catL size_list strV)
attribute [-go_sem] Builtin.append_

/-- a table of texts that came in -/
def HasTab (W : World) (v : Value) (ls : List (List (List UInt8))) : Prop :=
  ∃ o cap, v = .slice o ls.length cap ∧ ∀ j (hj : j < ls.length), ∃ b i ro rc, o = some ⟨b, i, none⟩ ∧ W.cell? ⟨b, i + j, none⟩ = some (.slice ro ls[j].length rc) ∧ b < W.heap.size ∧ Frame.HasStrs W (.slice ro ls[j].length rc) ls[j] ∧ (ro = none → rc = 0) ∧ ls[j].length ≤ 9223372036854775807 ∧ ∀ z ∈ ls[j], z.length ≤ 9223372036854775807
theorem HasTab.keep {W W' : World} {v : Value} {ls : List (List (List UInt8))} (h : HasTab W v ls) (hb : Below W.heap.size W W') : HasTab W' v ls := by
  obtain ⟨o, cap, rfl, g⟩ := h
  refine ⟨o, cap, rfl, fun j hj => ?_⟩
  obtain ⟨b, i, ro, rc, e, hc, hl, hs, hr⟩ := g j hj
  exact ⟨b, i, ro, rc, e, (hb.cell (p := ⟨b, i + j, none⟩) hl).trans hc, Nat.lt_of_lt_of_le hl hb.size, hs.keep hb, hr⟩
theorem recs_few {zs : List (List UInt8)} (h : okR zs = true) : zs.length ≤ 14208 := by
  have h2 := (okR_inv h).2
  have : zs.length ≤ (catL zs).length := by
    clear h h2
    induction zs with
    | nil => exact Nat.zero_le _
    | cons z zs ih =>
      have e : catL (z :: zs) = Frame.frameL z ++ catL zs := by unfold catL; rw [List.flatMap_cons]
      have := Frame.frameL_len z
      rw [e, List.length_append, List.length_cons]
      omega
  omega
theorem write_may {d : Dk} {s : Int} {t : Nat} {at' : Int} {zs : List (List UInt8)} (hl : (longE d).2 = 0) (h : (writeS d s t at' zs).2.2 = 0) : okR zs = true := by
  rw [writeS, if_pos hl] at h
  by_cases hm : mayE (longE d).1 s t at' zs = 0
  · exact (may_inv hm).2.2.2
  · rw [if_neg hm] at h; exact absurd h hm
/-- what is asked of other sectors stays -/
structure Stays (N B L : Nat) (Q : Dk → Prop) : Prop where
  write : ∀ d k p d2, Q d → k < L → writeD d ((B + k : Nat) : Int) p = (d2, 0) → Q d2
  flush : ∀ d d2, Q d → flushD d = (d2, 0) → Q d2
theorem stays_all {N B L : Nat} {Q : Dk → Prop} (h : Stays N B L Q) : ∀ (ps : List (List UInt8)) (d : Dk) (k : Nat) (d2 : Dk), Q d → k + ps.length ≤ L → putAll d (B + k) ps = (d2, 0) → Q d2
  | [], d, k, d2, hq, _, e => by rw [putAll] at e; injection e with e _; rw [← e]; exact hq
  | p :: ps, d, k, d2, hq, hl, e => by
    rw [List.length_cons] at hl
    rw [putAll] at e
    by_cases h0 : (writeD d ((B + k : Nat) : Int) p).2 = 0
    · rw [if_pos h0] at e
      exact stays_all h ps _ (k + 1) d2 (h.write d k p _ hq (by omega) (by rw [← h0])) (by omega) e
    · rw [if_neg h0] at e
      rw [e] at h0; exact absurd rfl h0
theorem stays_write {N L s T : Nat} {Q : Dk → Prop} {d d2 : Dk} {at' n : Nat} {zs : List (List UInt8)} (h : Stays N (2 + s * L) L Q) (hq : Q d) (hlo : longE d = (L, 0)) (e : writeS d (s : Int) T (at' : Int) zs = (d2, n, 0)) : Q d2 := by
  have e0 := e
  rw [writeS, hlo] at e
  simp only at e
  rw [if_pos trivial] at e
  by_cases hm : mayE L (s : Int) T (at' : Int) zs = 0
  · rw [if_pos hm, Int.toNat_natCast, Int.toNat_natCast] at e
    obtain ⟨_, _, ⟨b, hb, hbc⟩, _⟩ := may_inv hm
    obtain rfl : b = at' := by omega
    by_cases hp : (putAll d (2 + s * L + b) (pagesR (T + b) zs)).2 = 0
    · rw [if_pos hp] at e
      injection e with e1 _
      exact stays_all h (pagesR (T + b) zs) d b d2 hq (by rw [pagesR_len]; exact hbc) (Prod.ext e1 hp)
    · rw [if_neg hp] at e
      injection e with _ e1
      injection e1 with _ e1
      exact absurd e1 hp
  · rw [if_neg hm] at e
    injection e with _ e1
    injection e1 with _ e1
    exact absurd e1 hm
theorem dk_parts {W : World} {a b f o : Value} {d : Dk} (h : HasDk W (.agg #[a, b, f, o]) d) : HasStrs W a d.secs ∧ HasPuts W b d.cache := by
  obtain ⟨s, c, e, h1, h2⟩ := h
  injection e with e
  injection e with e
  injection e with e1 e
  injection e with e2 e
  subst e1
  subst e2
  exact ⟨h1, h2⟩
def WnIs (N L T M s : Nat) (old : Nat → List UInt8) (Q : Dk → Prop) (w : World) (e : Ending) (w' : World) : Prop :=
  ∃ (D : Dk) (ds all : List (List UInt8)) (F safe : Nat) (so co ao : Option Addr) (sc cc ac : Nat), e = .returned (.tuple #[.agg #[.slice so D.secs.length sc, .slice co D.cache.length cc, .int .i64 D.fuse, .bool D.off], .slice ao all.length ac, .int .i64 (safe : Int)]) ∧
    HasStrs w' (.slice so D.secs.length sc) D.secs ∧ HasPuts w' (.slice co D.cache.length cc) D.cache ∧ Frame.HasStrs w' (.slice ao all.length ac) all ∧ all.length ≤ ac ∧ ac ≤ 9223372036854775807 ∧ all.length ≤ 142080 ∧ Wn N L T M s old ds all F safe D ∧ Q D ∧ Below w.heap.size w w'
theorem RwAt.keeps {w W W' : World} {D : Dk} (h : RwAt w W D) (hk : Keeps W W' (w.heap.size + 2)) (hok : Ok D) : RwAt w W' D := by
  refine ⟨?_, ?_, ?_⟩
  · obtain ⟨so, sc, co, cc, vb, hs, hc⟩ := h.disk
    exact ⟨so, sc, co, cc, (hk.low.block _ (by omega)).trans vb, hk.strs hs hok.whole, hk.puts hc (fun p hp => (hok.puts p hp).2)⟩
  · exact (hk.low.block _ (by omega)).trans h.res
  · exact h.below.trans (hk.low.mono (by omega))
set_option maxHeartbeats 8000000 in
set_option maxRecDepth 20000 in
theorem written_any (N L T M s : Nat) (old : Nat → List UInt8) (Q : Dk → Prop) (d : Dk) (v lv fv : Value) (ls : List (List (List UInt8))) (fl : List Bool) (w : World) (h : HasDk w v d) (hl : HasTab w lv ls) (hfl : HasRow w fv 1 fl.length (fl.map Value.bool)) (hl10 : ls.length ≤ 10)
    (h10 : 10 ≤ N) (hL : L = (N - 2) / 8) (hs8 : s < 8) (hT : T < 18446744073709551616) (hst : Stays N (2 + s * L) L Q) (hw0 : Wn N L T M s old [] [] 0 0 d) (hq0 : Q d) :
    Calls Try.prog 23 #[v, .int .i64 (s : Int), .int .u64 (T : Int), lv, fv] w (WnIs N L T M s old Q w) := by
  obtain ⟨so, sc, co, cc, rfl, hsx, hcx⟩ := h.parts
  obtain ⟨lo, lc, rfl, hg⟩ := hl
  obtain ⟨n, hn⟩ : ∃ n, n = ls.length := ⟨_, rfl⟩
  have HN : Hid (n = ls.length ∧ n ≤ 10) := ⟨hn, by omega⟩
  have HG : Hid (∀ j (hj : j < ls.length), ∃ b i ro rc, lo = some ⟨b, i, none⟩ ∧ w.cell? ⟨b, i + j, none⟩ = some (.slice ro ls[j].length rc) ∧ b < w.heap.size ∧ Frame.HasStrs w (.slice ro ls[j].length rc) ls[j] ∧ (ro = none → rc = 0) ∧ ls[j].length ≤ 9223372036854775807 ∧ ∀ z ∈ ls[j], z.length ≤ 9223372036854775807) := hg
  obtain ⟨fo, fc, rfl, hf1, hf2⟩ := HasRow.slice hfl
  have HFL : Hid (HasRow w (.slice fo fl.length fc) 1 fl.length (fl.map Value.bool)) := hfl
  have hfi : (fl.length : Int) ≤ 9223372036854775807 := by omega
  have HP : Hid (10 ≤ N ∧ L = (N - 2) / 8 ∧ s < 8 ∧ T < 18446744073709551616 ∧ Stays N (2 + s * L) L Q) := ⟨h10, hL, hs8, hT, hst⟩
  have HW0 : Hid (Wn N L T M s old [] [] 0 0 d ∧ Q d) := ⟨hw0, hq0⟩
  rw [← hn]
  have hni : (n : Int) ≤ 10 := by omega
  obtain ⟨X, hX⟩ : ∃ X, X = (w.alloc (.cells #[.slice so d.secs.length sc, .slice co d.cache.length cc, .int .i64 d.fuse, .bool d.off] 25)).alloc (.cells #[.slice none 0 0, .slice none 0 0, .int .i64 0, .bool false] 25) := ⟨_, rfl⟩
  have HX : Hid (RwAt w X d) := by
    refine ⟨?_, ?_, ?_⟩
    · rw [hX]; exact (VDk.new hsx hcx).below ((Below.refl _ _).alloc (Nat.le_refl _) _)
    · have := World.alloc_heap_new (w.alloc (.cells #[.slice so d.secs.length sc, .slice co d.cache.length cc, .int .i64 d.fuse, .bool d.off] 25)) (.cells #[.slice none 0 0, .slice none 0 0, .int .i64 0, .bool false] 25)
      rw [World.size_alloc, ← hX] at this
      exact this
    · rw [hX]; exact ((Below.refl _ w).alloc (Nat.le_refl _) _).alloc (by simp) _
  have hXs : w.heap.size + 2 ≤ X.heap.size := by rw [hX]; simp
  clear hn hg hfl hf1 hf2 h10 hL hs8 hT hst hw0 hq0 hl10 hsx hcx h
  go_enter Try.func23, Try.ntmps23
  go_upto_region 1 with fail
  rw [← hX]
  clear hX
  go_wp2_with fail
  go_loopw [13, 14, 15, 25] (fun al at' sf i wr => ∃ (k : Nat) (D : Dk) (ds all : List (List UInt8)) (F safe : Nat) (ao : Option Addr) (ac : Nat), k ≤ n ∧ i = .int .i64 (k : Int) ∧ at' = .int .i64 (ds.length : Int) ∧ sf = .int .i64 (safe : Int) ∧ al = .slice ao all.length ac ∧ all.length ≤ ac ∧ ac ≤ 9223372036854775807 ∧ w.heap.size + 2 ≤ wr.heap.size ∧
      Hid (RwAt w wr D ∧ Wn N L T M s old ds all F safe D ∧ Q D ∧ Own0 wr (w.heap.size + 2) (.slice ao all.length ac) all ∧ all.length ≤ 14208 * k)) (fun _ _ _ i _ => n - (intOf i).toNat)
  case atStart => exact ⟨0, d, [], [], 0, 0, none, 0, Nat.zero_le _, rfl, rfl, rfl, rfl, Nat.le_refl _, by decide, hXs, ⟨HX.out, HW0.out.1, HW0.out.2, (.inl ⟨rfl, rfl⟩), by simp⟩⟩
  case round =>
    obtain ⟨k, D, ds, all, F, safe, ao, ac, hk, rfl, rfl, rfl, rfl, hac1, hac2, hsz, HV⟩ := hrel
    clear HX HW0 hXs
    by_cases hlt : k < n
    · skip
      obtain ⟨hv, hwn, hq, hown, hal⟩ := HV.out
      have hkl : k < ls.length := by rw [← HN.out.1]; exact hlt
      obtain ⟨b, i, ro, rc, hlo, hcell, hbw, hrow, hro, hrl, hrz⟩ := HG.out k hkl
      subst hlo
      have hc2 := (hv.below.cell (p := ⟨b, i + k, none⟩) hbw).trans hcell
      have hki : (k : Int) < (n : Int) := by omega
      generalize ls[k] = z at hc2 hrow hrl hrz hcell
      have hlong := hwn.sg.long HP.out.1 HP.out.2.1
      have hN9 : N ≤ 1024 := by have := hwn.sg.ok.many; rw [hwn.sg.len] at this; exact this
      have hds : ds.length ≤ 127 := by have := hwn.sg.few; have := HP.out.2.1; omega
      have csw := fun W v (hd : HasDk W v D) (hr : Frame.HasStrs W (.slice ro z.length rc) z) => (swrite_any D v (s : Int) T (ds.length : Int) z _ W hd (fits_ok hwn.sg.ok (by rw [hwn.sg.fuse]; omega)) hr hrl hrz (by have := HP.out.2.2.1; omega) HP.out.2.2.2.1 (by omega)).mono (fun e w' h => wrb_of h)
      have HROW : Hid ((∀ W, Below w.heap.size w W → Frame.HasStrs W (.slice ro z.length rc) z) ∧ (ro = none → rc = 0)) := ⟨fun W hb => hrow.keep hb, hro⟩
      obtain ⟨R, hR⟩ : ∃ R, R = writeS D (s : Int) T (ds.length : Int) z := ⟨_, rfl⟩
      rw [← hR] at csw
      obtain ⟨D2, n2, y2⟩ := R
      simp only at csw
      unfold WrB at csw
      have HRR : Hid ((D2, n2, y2) = writeS D (s : Int) T (ds.length : Int) z) := hR
      have HV1 : Hid (RwAt w wr D) := hv
      have HWN1 : Hid (Wn N L T M s old ds all F safe D ∧ Q D ∧ Own0 wr (w.heap.size + 2) (.slice ao all.length ac) all ∧ all.length ≤ 14208 * k ∧ longE D = (L, 0)) := ⟨hwn, hq, hown, hal, hlong⟩
      obtain ⟨s5, s6, s7, s8, vb, hs, hc⟩ := hv.disk
      obtain ⟨q0, q1, q2, q3, qf⟩ := vb.cells
      have hdi : (ds.length : Int) ≤ 127 := by omega
      clear hwn hq hown hal hlong hrow hro hrl hrz hcell hR hN9 HV
      go_wp2_with fail
      go_at_call 9; refine (csw _ _ ⟨_, _, rfl, hs, hc⟩ (HROW.out.1 _ HV1.out.below)).mono ?_; rintro e w2 ⟨a1, a2, a3, a4, rfl, hs2, hc3, hb2⟩
      obtain ⟨X2, hX2⟩ : ∃ X, X = w2.alloc (.cells #[.slice a1 D2.secs.length a2, .slice a3 D2.cache.length a4, .int .i64 D2.fuse, .bool D2.off] 25) := ⟨_, rfl⟩
      obtain ⟨b2, hb2'⟩ : ∃ b, b = w2.heap.size := ⟨_, rfl⟩
      have hbX : Below w2.heap.size w2 X2 := by rw [hX2]; exact (Below.refl _ _).alloc (Nat.le_refl _) _
      have hbb := below2 hb2 hbX
      have HV2 : Hid (RwAt w X2 D) := HV1.out.keep hbb
      have VE : VBox X2 b2 (.slice a1 D2.secs.length a2) (.slice a3 D2.cache.length a4) (.int .i64 D2.fuse) (.bool D2.off) := by rw [hX2, hb2']; exact World.alloc_heap_new _ _
      have HSX : Hid (HasStrs X2 (.slice a1 D2.secs.length a2) D2.secs ∧ HasPuts X2 (.slice a3 D2.cache.length a4) D2.cache) := ⟨hs2.keep hbX, hc3.keep hbX⟩
      have hszX : w.heap.size + 2 ≤ X2.heap.size := by have := hbb.size; omega
      have hb2g : wr.heap.size ≤ b2 := by rw [hb2']; exact hb2.size
      have HOW2 : Hid (Own0 X2 (w.heap.size + 2) (.slice ao all.length ac) all) := HWN1.out.2.2.1.below hbb
      have HOB : Hid (∀ g, (Value.slice ao all.length ac).ownBlock = some g → g < b2) := fun g hg => by
        have := (HWN1.out.2.2.1.own.lt g hg).2
        omega
      clear q0 q1 q2 q3 qf vb hs hc csw hv hc2
      go_upto_region 7 with fail
      rw [← hX2, ← hb2']
      clear hX2 hb2' hbX hbb hs2 hc3 hb2 HV1
      by_cases hy : y2 = 0
      · subst hy
        obtain ⟨d3, e3, hsg3, hmt3⟩ := step_write HWN1.out.1.sg HWN1.out.1.meet HP.out.1 HP.out.2.1 (zs := z) (by rw [← HRR.out])
        have hz14 : z.length ≤ 14208 := recs_few (write_may (d := D) (by rw [HWN1.out.2.2.2.2]) (by rw [← HRR.out]))
        have hq3 : Q d3 := stays_write HP.out.2.2.2.2 HWN1.out.2.1 HWN1.out.2.2.2.2 e3
        rw [← HRR.out] at e3
        injection e3 with e4 e5
        injection e5 with e5 _
        subst e4
        subst e5
        have HNX : Hid (Wn N L T M s old (ds ++ pcs z) (all ++ z) F safe D2 ∧ Q D2) := ⟨⟨hsg3, hmt3⟩, hq3⟩
        have hal := HWN1.out.2.2.2.1
        have hk10 := HN.out.2
        obtain ⟨ao2, ac2, w3, hrun, hown3, hgr3, hkp3⟩ := app0 (W := X2.drew) (base := w.heap.size + 2) (v := .slice ao all.length ac) (u := .slice ro z.length rc) (xs := all) (zs := z) (HOW2.out.kept (grown_drew _ none) (fun k e => by cases e)) (HROW.out.1 _ (below2 HV2.out.below ⟨rfl, rfl, rfl, Nat.le_refl _, fun _ _ => rfl⟩)) (fun l c e => by injection e with e1 _ e3; subst e3; exact HROW.out.2 e1) (by omega) hszX
        have hlen2 : (ds ++ pcs z).length = ds.length + (pcs z).length := List.length_append
        have HLEN : Hid ((ds ++ pcs z).length = ds.length + (pcs z).length ∧ (all ++ z).length ≤ 14208 * (k + 1)) := ⟨hlen2, by rw [List.length_append]; omega⟩
        have hVE3 : VBox w3 b2 (.slice a1 D2.secs.length a2) (.slice a3 D2.cache.length a4) (.int .i64 D2.fuse) (.bool D2.off) := (hgr3.block b2 VE.lt (fun e => by have := HOB.out b2 e.symm; omega)).trans VE
        have HV3 : Hid (RwAt w w3 D) := RwAt.keeps (W := X2.drew) ⟨HV2.out.disk, HV2.out.res, below2 HV2.out.below ⟨rfl, rfl, rfl, Nat.le_refl _, fun _ _ => rfl⟩⟩ hkp3 HWN1.out.1.sg.ok
        have HSX3 : Hid (HasStrs w3 (.slice a1 D2.secs.length a2) D2.secs ∧ HasPuts w3 (.slice a3 D2.cache.length a4) D2.cache) := ⟨hkp3.strs HSX.out.1 hsg3.ok.whole, hkp3.puts HSX.out.2 (fun p hp => (hsg3.ok.puts p hp).2)⟩
        have hsz3 : w.heap.size + 2 ≤ w3.heap.size := Nat.le_trans hszX hkp3.size
        have hac3 : (all ++ z).length ≤ ac2 ∧ ac2 ≤ 9223372036854775807 := by
          obtain ⟨_, _, e, h1, h2⟩ := hown3.form
          injection e with _ _ e
          subst e
          exact ⟨h1, h2⟩
        have HOW3 : Hid (Own0 w3 (w.heap.size + 2) (.slice ao2 (all ++ z).length ac2) (all ++ z)) := hown3
        obtain ⟨q0, q1, q2, q3, qf⟩ := VE.cells
        obtain ⟨p0, p1, p2, p3, pf⟩ := hVE3.cells
        obtain ⟨x5, x6, x7, x8, vb3, hs3, hc3⟩ := HV3.out.disk
        obtain ⟨y0, y1, y2, y3, yf⟩ := vb3.cells
        have hb2w : b2 ≠ w.heap.size := by have := HV2.out.below.size; omega
        clear hown3 hgr3 hkp3 hsg3 hmt3 hq3 hlen2 hal
        go_upto_region 8 with fail
        go_region
        go_upto_region 9 with fail
        obtain ⟨X4, hX4⟩ : ∃ X, X = ((((w3.setCell ⟨w.heap.size, 0, none⟩ (.slice a1 D2.secs.length a2)).setCell ⟨w.heap.size, 1, none⟩ (.slice a3 D2.cache.length a4)).setCell ⟨w.heap.size, 2, none⟩ (.int .i64 D2.fuse)).setCell ⟨w.heap.size, 3, none⟩ (.bool D2.off)) := ⟨_, rfl⟩
        have HV4 : Hid (RwAt w X4 D2) := by rw [hX4]; exact HV3.out.store HSX3.out.1 HSX3.out.2
        have HOW4 : Hid (Own0 X4 (w.heap.size + 2) (.slice ao2 (all ++ z).length ac2) (all ++ z)) := by rw [hX4]; exact HOW3.out.kept (set4_grown _ _ _ _ _ _) (fun k e => by injection e with e; omega)
        have hsz4 : w.heap.size + 2 ≤ X4.heap.size := by rw [hX4]; exact Nat.le_trans hsz3 (set4_grown _ _ _ _ _ _).size
        rw [← hX4]
        have hal2 : (all ++ z).length = all.length + z.length := List.length_append
        have HA2 : Hid ((all ++ z).length = all.length + z.length) := hal2
        rw [hal2] at hac3
        clear hX4 q0 q1 q2 q3 qf p0 p1 p2 p3 pf y0 y1 y2 y3 yf vb3 hs3 hc3 VE hVE3 HSX HSX3 HV2 HV3 HOW2 HOW3 hrun HWN1 HRR HOB hb2g hb2w hal2 hsz3 hszX
        by_cases hkf : k < fl.length
        · have hkfi : (k : Int) < (fl.length : Int) := by omega
          have dkf : decide ((k : Int) < (fl.length : Int)) = true := decide_eq_true hkfi
          have hfc : ∃ fb fi, fo = some ⟨fb, fi, none⟩ ∧ X4.cell? ⟨fb, fi + k, none⟩ = some (.bool fl[k]) := by
            have hr := HFL.out
            rcases hr.2 with ⟨h0, h1⟩ | ⟨fa, fcap, e, h1, h2, h3, h4⟩
            · omega
            · injection e with e _ _
              obtain ⟨fb, fi, sp⟩ := fa
              have h3' := h3 (by omega)
              have hsp : sp = none := h3'.1
              subst hsp
              refine ⟨fb, fi, e, ?_⟩
              have h5 := h4 k (by omega)
              rw [addr_add] at h5
              rw [HV4.out.below.cell (p := ⟨fb, fi + k, none⟩) h3'.2, h5]
              simp [hkf]
          obtain ⟨fb, fi, hfo, hfcell⟩ := hfc
          subst hfo
          cases hfk : fl[k] with
          | false =>
            rw [hfk] at hfcell
            have hv4 := HV4.out
            go_wp2_with fail
            go_roundw
            case rel => exact ⟨k + 1, D2, ds ++ pcs z, all ++ z, F, safe, ao2, ac2, by omega, by go_num, by rw [HLEN.out.1], rfl, by rw [HA2.out], by rw [HA2.out]; exact hac3.1, hac3.2, hsz4, ⟨HV4.out, HNX.out.1, HNX.out.2, HOW4.out, HLEN.out.2⟩⟩
            case measure => simp [intOf]; omega
          | true =>
            rw [hfk] at hfcell
            obtain ⟨D3, efl, hsgf⟩ := HNX.out.1.sg.flush
            have hqf : Q D3 := HP.out.2.2.2.2.flush _ _ HNX.out.2 efl
            have cfl := fun W v (hd : HasDk W v D2) => (Disk.flush_fn D2 v W hd (fits_ok HNX.out.1.sg.ok (by rw [HNX.out.1.sg.fuse]; omega))).mono (fun e w' h => back_of h)
            rw [outD_ok HNX.out.1.sg.ok, efl] at cfl
            unfold Back at cfl
            simp only at cfl
            have HNF : Hid (Wn N L T M s old (ds ++ pcs z) (all ++ z) (ds ++ pcs z).length (all ++ z).length D3 ∧ Q D3) := ⟨⟨hsgf, meet_flush HNX.out.1.meet⟩, hqf⟩
            obtain ⟨s5, s6, s7, s8, vb, hs, hc⟩ := HV4.out.disk
            obtain ⟨q0, q1, q2, q3, qf⟩ := vb.cells
            clear hsgf hqf efl
            go_wp2_with fail
            go_at_call 25; refine (cfl _ _ ⟨_, _, rfl, hs, hc⟩).mono ?_; rintro e w5 ⟨c1, c2, c3, c4, rfl, hs5, hc5, hb5⟩
            obtain ⟨X5, hX5⟩ : ∃ X, X = w5.alloc (.cells #[.slice c1 D3.secs.length c2, .slice c3 D3.cache.length c4, .int .i64 D3.fuse, .bool D3.off] 25) := ⟨_, rfl⟩
            obtain ⟨b5, hb5'⟩ : ∃ b, b = w5.heap.size := ⟨_, rfl⟩
            have hbX : Below w5.heap.size w5 X5 := by rw [hX5]; exact (Below.refl _ _).alloc (Nat.le_refl _) _
            have hbb := below2 hb5 hbX
            have HV5 : Hid (RwAt w X5 D2) := HV4.out.keep hbb
            have VE : VBox X5 b5 (.slice c1 D3.secs.length c2) (.slice c3 D3.cache.length c4) (.int .i64 D3.fuse) (.bool D3.off) := by rw [hX5, hb5']; exact World.alloc_heap_new _ _
            have HSX : Hid (HasStrs X5 (.slice c1 D3.secs.length c2) D3.secs ∧ HasPuts X5 (.slice c3 D3.cache.length c4) D3.cache) := ⟨hs5.keep hbX, hc5.keep hbX⟩
            have HOW5 : Hid (Own0 X5 (w.heap.size + 2) (.slice ao2 (all ++ z).length ac2) (all ++ z)) := HOW4.out.below hbb
            have hsz5 : w.heap.size + 2 ≤ X5.heap.size := by have := hbb.size; omega
            clear q0 q1 q2 q3 qf vb hs hc cfl HV4 HOW4 hsz4 hfcell
            go_upto_region 11 with fail
            rw [← hX5, ← hb5']
            clear hX5 hb5' hbX hbb hs5 hc5 hb5
            obtain ⟨q0, q1, q2, q3, qf⟩ := VE.cells
            obtain ⟨x5, x6, x7, x8, vb3, hs3, hc3⟩ := HV5.out.disk
            obtain ⟨y0, y1, y2, y3, yf⟩ := vb3.cells
            have hgr6 := set4_grown X5 w.heap.size (.slice c1 D3.secs.length c2) (.slice c3 D3.cache.length c4) (.int .i64 D3.fuse) (.bool D3.off)
            have HV6 : Hid _ := HV5.out.store HSX.out.1 HSX.out.2
            have HOW6 : Hid _ := HOW5.out.kept hgr6 (fun k e => by injection e with e; omega)
            have hsz6 := Nat.le_trans hsz5 hgr6.size
            have HSZ6 : Hid _ := hsz6
            clear hgr6 hs3 hc3 vb3 VE HSX HV5 HOW5 hsz6
            go_wp2_with fail
            go_roundw
            case rel => exact ⟨k + 1, D3, ds ++ pcs z, all ++ z, (ds ++ pcs z).length, (all ++ z).length, ao2, ac2, by omega, by go_num, by rw [HLEN.out.1]; simp, by rw [HA2.out]; simp, by rw [HA2.out], by rw [HA2.out]; exact hac3.1, hac3.2, HSZ6.out, ⟨HV6.out, HNF.out.1, HNF.out.2, HOW6.out, HLEN.out.2⟩⟩
            case measure => simp [intOf]; omega
        · have dkf : decide ((k : Int) < (fl.length : Int)) = false := decide_eq_false (by omega)
          have dkf' : decide (k < fl.length) = false := decide_eq_false hkf
          go_wp2_with fail
          go_roundw
          case rel => exact ⟨k + 1, D2, ds ++ pcs z, all ++ z, F, safe, ao2, ac2, by omega, by go_num, by rw [HLEN.out.1], rfl, by rw [HA2.out], by rw [HA2.out]; exact hac3.1, hac3.2, hsz4, ⟨HV4.out, HNX.out.1, HNX.out.2, HOW4.out, HLEN.out.2⟩⟩
          case measure => simp [intOf]; omega
      · have hy2 : (y2 != 0) = true := by simpa using hy
        have hk10 := HN.out.2
        have HVT : Hid (RwAt w X2 D ∧ Wn N L T M s old ds all F safe D ∧ Q D ∧ Own0 X2 (w.heap.size + 2) (.slice ao all.length ac) all ∧ all.length ≤ 14208 * k) := ⟨HV2.out, HWN1.out.1, HWN1.out.2.1, HOW2.out, HWN1.out.2.2.2.1⟩
        clear VE HSX HRR HWN1 HV2 HOW2 HOB hb2g
        obtain ⟨hv, hwn, hq, hown, hal⟩ := HVT.out
        obtain ⟨s5, s6, s7, s8, vb, hs, hc⟩ := hv.disk
        obtain ⟨q0, q1, q2, q3, qf⟩ := vb.cells
        obtain ⟨z0, z1, z2, z3, zf⟩ := hv.res.cells
        have HO1 := hv.out hs hc
        have HO : Hid _ := HO1
        have hgr := set4_grown X2 (w.heap.size + 1) (.slice s5 D.secs.length s6) (.slice s7 D.cache.length s8) (.int .i64 D.fuse) (.bool D.off)
        have HAL : Hid (Frame.HasStrs (((((X2.setCell ⟨w.heap.size + 1, 0, none⟩ (.slice s5 D.secs.length s6)).setCell ⟨w.heap.size + 1, 1, none⟩ (.slice s7 D.cache.length s8)).setCell ⟨w.heap.size + 1, 2, none⟩ (.int .i64 D.fuse)).setCell ⟨w.heap.size + 1, 3, none⟩ (.bool D.off))) (.slice ao all.length ac) all) := by
          exact Frame.has_own (B := w.heap.size + 2) (hown.kept hgr (fun k e => by injection e with e; omega)).own
        have HWN : Hid (Wn N L T M s old ds all F safe D ∧ Q D ∧ all.length ≤ 142080) := ⟨hwn, hq, by omega⟩
        clear HO1 hv hs hc vb hwn hq hown hgr HVT hk10 hal
        go_wp2_with fail
        (try simp only [Exit.inBlock, Exit.then])
        refine bodyPost_ret (v := .tuple #[.agg #[.slice s5 D.secs.length s6, .slice s7 D.cache.length s8, .int .i64 D.fuse, .bool D.off], .slice ao all.length ac, .int .i64 (safe : Int)]) ?_ rfl ⟨D, ds, all, F, safe, s5, s7, ao, s6, s8, ac, rfl, ?_, ?_, HAL.out, hac1, hac2, HWN.out.2.2, HWN.out.1, HWN.out.2.1, HO.out.2⟩
        · rw [results_cell_tmp2 rfl]
          go_simp
        · exact (dk_parts HO.out.1).1
        · exact (dk_parts HO.out.1).2
    · obtain rfl : k = n := by omega
      have hk10 := HN.out.2
      obtain ⟨hv, hwn, hq, hown, hal⟩ := HV.out
      obtain ⟨s5, s6, s7, s8, vb, hs, hc⟩ := hv.disk
      obtain ⟨q0, q1, q2, q3, qf⟩ := vb.cells
      obtain ⟨z0, z1, z2, z3, zf⟩ := hv.res.cells
      have HO1 := hv.out hs hc
      have HO : Hid _ := HO1
      have hgr := set4_grown wr (w.heap.size + 1) (.slice s5 D.secs.length s6) (.slice s7 D.cache.length s8) (.int .i64 D.fuse) (.bool D.off)
      have HAL : Hid (Frame.HasStrs (((((wr.setCell ⟨w.heap.size + 1, 0, none⟩ (.slice s5 D.secs.length s6)).setCell ⟨w.heap.size + 1, 1, none⟩ (.slice s7 D.cache.length s8)).setCell ⟨w.heap.size + 1, 2, none⟩ (.int .i64 D.fuse)).setCell ⟨w.heap.size + 1, 3, none⟩ (.bool D.off))) (.slice ao all.length ac) all) := by
        exact Frame.has_own (B := w.heap.size + 2) (hown.kept hgr (fun k e => by injection e with e; omega)).own
      have HWN : Hid (Wn N L T M s old ds all F safe D ∧ Q D ∧ all.length ≤ 142080) := ⟨hwn, hq, by omega⟩
      clear HO1 hv hs hc vb hwn hq hown hgr HV hk10 hal
      go_wp2_with fail
      (try simp only [Exit.inBlock, Exit.then])
      refine bodyPost_ret (v := .tuple #[.agg #[.slice s5 D.secs.length s6, .slice s7 D.cache.length s8, .int .i64 D.fuse, .bool D.off], .slice ao all.length ac, .int .i64 (safe : Int)]) ?_ rfl ⟨D, ds, all, F, safe, s5, s7, ao, s6, s8, ac, rfl, ?_, ?_, HAL.out, hac1, hac2, HWN.out.2.2, HWN.out.1, HWN.out.2.1, HO.out.2⟩
      · rw [results_cell_tmp2 rfl]
        go_simp
      · exact (dk_parts HO.out.1).1
      · exact (dk_parts HO.out.1).2
end Go.Proofs.Ytbikcpchlgmoaaa.Seg
namespace Go.Proofs.Ytbikcpchlgmoaaa.Seg
open Go.ChangeShapes Go.WideShapes Go.ChangeAt Go.RowKit
open Go.Proofs.Ytbikcpchlgmoaaa.Frame (IsStrs isStrs_nil isStrs_of)
section
variable {H : Type} {enc : TypeId × Value → H} {W : World} {base : Nat} {held : Bool}
theorem open_tab {v : Value} {fuel : Nat} {x : DataW H × List MemPlace} (h : DataW.trod enc Try.prog W base (fun _ => true) held fuel 43 [v] = some x) : ∃ ls, HasTab W v ls := by
  rcases Go.Deep.open_slice1 Try.underlying43 (by kernel_rfl) h with ⟨hcs, _⟩ | ⟨a, l, c, m, n, V, D, Pl, hcs, _, hl, hm, hmm, _, hr⟩
  · injection hcs with e; subst e
    exact ⟨[], none, 0, rfl, fun j hj => by simp at hj⟩
  · injection hcs with e; subst e
    have hlm : l ≤ m := by rw [hmm]; split <;> omega
    have hA : ∀ i, ∃ zs : List (List UInt8), i < l → ∃ ro rc, V i = .slice ro zs.length rc ∧ Frame.HasStrs W (.slice ro zs.length rc) zs ∧ (ro = none → rc = 0) ∧ zs.length ≤ 9223372036854775807 ∧ ∀ z ∈ zs, z.length ≤ 9223372036854775807 := fun i => by
      by_cases hi : i < l
      · obtain ⟨_, t1⟩ := hr i (by omega)
        rcases Go.Deep.open_strs Try.underlying22 Try.underlying9 (by kernel_rfl) t1 with ⟨hc0, _⟩ | ⟨xa, xl, xc, xm, Sx, hc0, _, hxl, hxm, hxmm, _, hxr⟩
        · injection hc0 with e0
          exact ⟨[], fun _ => ⟨none, 0, e0, (isStrs_nil W).1, fun _ => rfl, by simp, by simp⟩⟩
        · injection hc0 with e0
          have hs := isStrs_of (w := W) hxl hxm (fun i hi => hxr i (by rw [hxmm]; split <;> omega))
          refine ⟨(List.range xl).map fun i => (Sx i).data.toList, fun _ => ⟨some xa, xc, by rw [e0]; simp, ?_, (fun e => by cases e), ?_, hs.2.2.2.2⟩⟩
          · have := hs.1; simpa using this
          · unfold maxLen at hxm; simp; omega
      · exact ⟨[], fun h => absurd h hi⟩
    obtain ⟨G, hG⟩ := Classical.axiomOfChoice hA
    refine ⟨(List.range l).map G, some a, c, by simp, fun j hj => ?_⟩
    have hj' : j < l := by simpa using hj
    obtain ⟨ro, rc, e1, e2, e3, e4, e5⟩ := hG j hj'
    obtain ⟨hc1, _⟩ := hr j (by omega)
    obtain ⟨b, off, spot⟩ := a
    have hsp := Disk.spot_of hc1
    have hspot : spot = none := by simpa [Addr.add] using World.cell?_spot (hr 0 (by omega)).1
    subst hspot
    rw [Disk.addr_add] at hc1 hsp
    simp only [List.getElem_map, List.getElem_range]
    exact ⟨b, off, ro, rc, rfl, by rw [hc1, e1], hsp.2, e2, e3, e4, e5⟩
end
end Go.Proofs.Ytbikcpchlgmoaaa.Seg
namespace Go.Proofs.Ytbikcpchlgmoaaa
namespace segmentAnew
open Go.ChangeShapes Go.WideShapes Go.ChangeAt Go.RowKit
open Go.ChangeMaps (open_string shut_string)
open Go.Proofs.Ytbikcpchlgmoaaa.Seg
open Go.Proofs.Ytbikcpchlgmoaaa.Page (pageL pageL_len pageL_end eightL eight_inj)
open Go.Proofs.Ytbikcpchlgmoaaa.Disk (VDk back_of Back Dk HasDk HasRow Fits fits_ok VBox HasStrs HasPuts okB ok_of Ok makeD crashD flushD outD_ok below2 set4_grown set4_below zeroS)

theorem own : ownKnob Try.prog.godebug = none := by kernel_rfl
theorem laidOut : laidOutB Try.prog = true := by kernel_rfl
theorem take_has {W : World} {o : Option Addr} {c j : Nat} {zs : List (List UInt8)} (h : Frame.HasStrs W (.slice o zs.length c) zs) (hj : j ≤ zs.length) : Frame.HasStrs W (.slice o j c) (zs.take j) := by
  obtain ⟨o', c', e, g⟩ := h
  injection e with e1 _ e3
  subst e1
  subst e3
  refine ⟨o, c, by rw [List.length_take, Nat.min_eq_left hj], fun k hk => ?_⟩
  rw [List.length_take] at hk
  obtain ⟨b, i, e, hc, hl⟩ := g k (by omega)
  exact ⟨b, i, e, by rw [hc]; simp, hl⟩
theorem flush_none {d d2 : Dk} {y : Int} (h : flushD d = (d2, y)) (hf : d.fuse = -1) (ho : d.off = false) : d2.cache = [] := by
  rw [flushD, hf, ho] at h
  injection h with h _
  rw [← h]
theorem anew {N B L T M M2 T2 : Nat} {ds : List (List UInt8)} {d : Dk} (h : Sg N B L T M (fun _ => zeroS) ds ds.length d) (hc : d.cache = []) (hT : T + L ≤ T2) (hT2 : T2 + L < 18446744073709551616) (hM : M2 + L ≤ 4000) :
    Sg N B L T2 M2 (fun k => if k < ds.length then pageL (T + k) (ds.getD k []) else zeroS) [] 0 d := by
  have h0 := h.tag0
  have hfew := h.few
  refine ⟨h.ok, h.fuse, h.off, h.len, h.room, Nat.zero_le _, by simp, Nat.le_refl _, by rw [hc]; exact Nat.zero_le _, hM, by omega, hT2, fun k hk => ?_, fun k hk => by omega, fun k h1 h2 => absurd h2 (by simp), fun k h1 h2 => ?_⟩
  · by_cases hd : k < ds.length
    · rw [if_pos hd]
      refine ⟨pageL_len _ _ (h.cell k hd), ?_⟩
      rw [pageL_end _ _ (h.cell k hd)]
      intro e
      have := eight_inj (by omega) (by omega) e
      omega
    · rw [if_neg hd]
      refine ⟨rfl, ?_⟩
      rw [zero_end]
      intro e
      have := eight_inj (by decide) (by omega) e
      omega
  · show Cl d (B + k) (if k < ds.length then pageL (T + k) (ds.getD k []) else zeroS)
    by_cases hd : k < ds.length
    · rw [if_pos hd]; exact h.done k hd
    · rw [if_neg hd]; exact h.rest k (by omega) h2
set_option maxHeartbeats 2000000 in
set_option maxRecDepth 20000 in
theorem w1 (torn bytes : Int) (ev lv fv kv : Value) (es ls : List (List (List UInt8))) (w : World) (he : HasTab w ev es) (hl : HasTab w lv ls) (h : 10 < es.length) :
    Calls Try.prog 6 #[ev, lv, fv, kv, .int .i64 torn, .int .i64 bytes] w fun e w' => e = .returned (.bool true) ∧ Below w.heap.size w w' := by
  obtain ⟨lo, lc, rfl, _⟩ := hl
  obtain ⟨eo, ec, rfl, _⟩ := he
  have d1 : decide ((10 : Int) < (es.length : Int)) = true := decide_eq_true (by omega)
  have d1' : decide (10 < es.length) = true := decide_eq_true (by omega)
  go_enter Try.func6, Try.ntmps6
  go_wp2_with fail
  go_at_call 15; refine (Seg.lives_any _).mono ?_; rintro e w1 ⟨rfl, hb⟩
  go_wp2_with fail
  go_ret
  exact ⟨rfl, hb⟩
set_option maxHeartbeats 2000000 in
set_option maxRecDepth 20000 in
theorem w2 (torn bytes : Int) (ev lv fv kv : Value) (es ls : List (List (List UInt8))) (w : World) (he : HasTab w ev es) (hl : HasTab w lv ls) (h1 : es.length ≤ 10) (h : 10 < ls.length) :
    Calls Try.prog 6 #[ev, lv, fv, kv, .int .i64 torn, .int .i64 bytes] w fun e w' => e = .returned (.bool true) ∧ Below w.heap.size w w' := by
  obtain ⟨lo, lc, rfl, _⟩ := hl
  obtain ⟨eo, ec, rfl, _⟩ := he
  have d1 : decide ((10 : Int) < (es.length : Int)) = false := decide_eq_false (by omega)
  have d1' : decide (10 < es.length) = false := decide_eq_false (by omega)
  have d2 : decide ((10 : Int) < (ls.length : Int)) = true := decide_eq_true (by omega)
  have d2' : decide (10 < ls.length) = true := decide_eq_true (by omega)
  go_enter Try.func6, Try.ntmps6
  go_wp2_with fail
  go_at_call 15; refine (Seg.lives_any _).mono ?_; rintro e w1 ⟨rfl, hb⟩
  go_wp2_with fail
  go_ret
  exact ⟨rfl, hb⟩
set_option maxHeartbeats 8000000 in
set_option maxRecDepth 20000 in
theorem main (torn bytes : Int) (ev lv fv kv : Value) (es ls : List (List (List UInt8))) (fl keep : List Bool) (w : World) (h6 : es.length ≤ 10) (h7 : ls.length ≤ 10) (he : HasTab w ev es) (hl : HasTab w lv ls) (hfl : HasRow w fv 1 fl.length (fl.map Value.bool)) (hkp : HasRow w kv 1 keep.length (keep.map Value.bool))
    (hto : -9223372036854775808 ≤ torn ∧ torn ≤ 9223372036854775807) (hby : -9223372036854775808 ≤ bytes ∧ bytes ≤ 9223372036854775807) :
    Calls Try.prog 6 #[ev, lv, fv, kv, .int .i64 torn, .int .i64 bytes] w fun e w' => e = .returned (.bool true) ∧ Below w.heap.size w w' := by
  have d6 : decide ((10 : Int) < (es.length : Int)) = false := decide_eq_false (by omega)
  have d6' : decide (10 < es.length) = false := decide_eq_false (by omega)
  have d7 : decide ((10 : Int) < (ls.length : Int)) = false := decide_eq_false (by omega)
  have d7' : decide (10 < ls.length) = false := decide_eq_false (by omega)
  have cmk := fun W => (Disk.make_fn ((60 : Nat) : Int) W (by omega)).mono (fun e w' h => back_of h)
  have hmk : (makeD ((60 : Nat) : Int)).2 = 0 := (Disk.ok_make (n := ((60 : Nat) : Int)) ⟨by omega, by omega⟩).2.1
  rw [hmk] at cmk
  have hsg := sg_make (n := 60) 2 7 1000 0 (by omega) (by omega) (by omega) (by decide) (by omega) (by omega) (by omega)
  have HE9 : Hid (∀ W, Below w.heap.size w W → HasTab W ev es) := fun W hb => he.keep hb
  have HL9 : Hid (∀ W, Below w.heap.size w W → HasTab W lv ls) := fun W hb => hl.keep hb
  have HF9 : Hid (∀ W, Below w.heap.size w W → HasRow W fv 1 fl.length (fl.map Value.bool)) := fun W hb => Disk.HasRow.keep' hfl hb
  have HK9 : Hid (∀ W, Below w.heap.size w W → HasRow W kv 1 keep.length (keep.map Value.bool)) := fun W hb => Disk.HasRow.keep' hkp hb
  have cwr := fun W v (hd : HasDk W v (makeD ((60 : Nat) : Int)).1) (hb : Below w.heap.size w W) => written_any 60 7 1000 0 2 (fun _ => Disk.zeroS) (fun _ => True) (makeD ((60 : Nat) : Int)).1 v ev fv es fl W hd (HE9.out W hb) (HF9.out W hb) h6 (by omega) (by decide) (by omega) (by omega) ⟨fun _ _ _ _ _ _ _ => trivial, fun _ _ _ _ => trivial⟩ ⟨hsg, meet_nil⟩ trivial
  unfold WnIs at cwr
  have H7 : Hid (ls.length ≤ 10) := h7
  generalize (makeD ((60 : Nat) : Int)).1 = D1 at *
  unfold Back at cmk
  have e60 : (((60 : Nat)) : Int) = 60 := rfl
  have e2 : (((2 : Nat)) : Int) = 2 := rfl
  have e1000 : (((1000 : Nat)) : Int) = 1000 := rfl
  rw [e60] at cmk
  simp only [e2, e1000] at cwr
  obtain ⟨lo, lc, rfl, _⟩ := hl
  obtain ⟨eo, ec, rfl, _⟩ := he
  obtain ⟨fo, fc, rfl, _, _⟩ := HasRow.slice hfl
  obtain ⟨ko, kc, rfl, _, _⟩ := HasRow.slice hkp
  clear hsg hfl hkp h6 h7
  go_enter Try.func6, Try.ntmps6
  go_wp2_with fail
  go_at_call 15; refine (Seg.lives_any _).mono ?_; rintro e w1 ⟨rfl, hW⟩
  go_wp2_with fail
  go_at_call 22; refine (cmk _).mono ?_; rintro e w2 ⟨a1, a2, a3, a4, rfl, hs1, hc1, hb1⟩
  obtain ⟨X2, hX2⟩ : ∃ X, X = w2.alloc (.cells #[.slice a1 D1.secs.length a2, .slice a3 D1.cache.length a4, .int .i64 D1.fuse, .bool D1.off] 25) := ⟨_, rfl⟩
  obtain ⟨bd, hbd⟩ : ∃ b, b = w2.heap.size := ⟨_, rfl⟩
  have hbX : Below w2.heap.size w2 X2 := by rw [hX2]; exact (Below.refl _ _).alloc (Nat.le_refl _) _
  have V2 : Hid (VDk X2 bd D1) := by rw [hX2, hbd]; exact VDk.new hs1 hc1
  have hW := below2 hW (below2 hb1 hbX)
  have hwb : w.heap.size ≤ bd := by rw [hbd]; exact Nat.le_trans (by assumption : Below w.heap.size w w1).size hb1.size
  go_upto_region 6 with fail
  rw [← hX2, ← hbd]
  clear hX2 hbd hbX hb1 hs1 hc1 cmk d6 d6' d7 d7'
  obtain ⟨s5, s6, s7, s8, vb, hs, hc⟩ := V2.out
  obtain ⟨q0, q1, q2, q3, qf⟩ := vb.cells
  go_wp2_with fail
  go_at_call 23; refine (cwr _ _ ⟨_, _, rfl, hs, hc⟩ hW).mono ?_; rintro e w3 ⟨E, es', eall, EF, esafe, c1, c3, eao, c2, c4, eac, rfl, hs3, hc3, _, _, _, _, hwn, _, hb3⟩
  have V3' : Hid (VDk w3 bd D1) := V2.out.below hb3
  have hgr3 := set4_grown w3 bd (.slice c1 E.secs.length c2) (.slice c3 E.cache.length c4) (.int .i64 E.fuse) (.bool E.off)
  obtain ⟨X3, hX3⟩ : ∃ X, X = ((((w3.setCell ⟨bd, 0, none⟩ (.slice c1 E.secs.length c2)).setCell ⟨bd, 1, none⟩ (.slice c3 E.cache.length c4)).setCell ⟨bd, 2, none⟩ (.int .i64 E.fuse)).setCell ⟨bd, 3, none⟩ (.bool E.off)) := ⟨_, rfl⟩
  have V3 : Hid (VDk X3 bd E) := by rw [hX3]; exact V3'.out.store hs3 hc3
  clear q0 q1 q2 q3 qf vb hs hc
  obtain ⟨s5, s6, s7, s8, vb, hs, hc⟩ := V3'.out
  obtain ⟨q0, q1, q2, q3, qf⟩ := vb.cells
  have hW := below2 hW hb3
  have hWX : Below w.heap.size w X3 := by rw [hX3]; exact set4_below hW hwb _ _ _ _
  obtain ⟨E2, efl, hsf2⟩ := hwn.sg.flush
  have hnone := flush_none efl hwn.sg.fuse hwn.sg.off
  have cfl := fun W v (hd : HasDk W v E) => (Disk.flush_fn E v W hd (fits_ok hwn.sg.ok (by rw [hwn.sg.fuse]; omega))).mono (fun e w' h => back_of h)
  rw [outD_ok hwn.sg.ok, efl] at cfl
  unfold Back at cfl
  simp only at cfl
  have hsg2 := anew (M2 := 0) (T2 := 2000) hsf2 hnone (by omega) (by omega) (by omega)
  have cw2 := fun W v (hd : HasDk W v E2) (hb : Below w.heap.size w W) => written_any 60 7 2000 0 2 _ (fun _ => True) E2 v (.slice lo ls.length lc) (.slice fo fl.length fc) ls fl W hd (HL9.out W hb) (HF9.out W hb) H7.out (by omega) (by decide) (by omega) (by omega) ⟨fun _ _ _ _ _ _ _ => trivial, fun _ _ _ _ => trivial⟩ ⟨hsg2, meet_nil⟩ trivial
  unfold WnIs at cw2
  have e2000 : (((2000 : Nat)) : Int) = 2000 := rfl
  simp only [e2, e2000] at cw2
  clear hsg2 hnone hsf2 efl hwn hgr3 hs3 hc3 V2 cwr
  go_upto_region 7 with fail
  rw [← hX3]
  clear hX3 q0 q1 q2 q3 qf vb hs hc V3' hb3
  obtain ⟨s5, s6, s7, s8, vb, hs, hc⟩ := V3.out
  obtain ⟨q0, q1, q2, q3, qf⟩ := vb.cells
  go_wp2_with fail
  go_at_call 25; refine (cfl _ _ ⟨_, _, rfl, hs, hc⟩).mono ?_; rintro e w4 ⟨f1, f2, f3, f4, rfl, hs4, hc4, hb4⟩
  have V4' : Hid (VDk w4 bd E) := V3.out.below hb4
  have hgr4 := set4_grown w4 bd (.slice f1 E2.secs.length f2) (.slice f3 E2.cache.length f4) (.int .i64 E2.fuse) (.bool E2.off)
  obtain ⟨X4, hX4⟩ : ∃ X, X = ((((w4.setCell ⟨bd, 0, none⟩ (.slice f1 E2.secs.length f2)).setCell ⟨bd, 1, none⟩ (.slice f3 E2.cache.length f4)).setCell ⟨bd, 2, none⟩ (.int .i64 E2.fuse)).setCell ⟨bd, 3, none⟩ (.bool E2.off)) := ⟨_, rfl⟩
  have V4 : Hid (VDk X4 bd E2) := by rw [hX4]; exact V4'.out.store hs4 hc4
  clear q0 q1 q2 q3 qf vb hs hc
  obtain ⟨s5, s6, s7, s8, vb, hs, hc⟩ := V4'.out
  obtain ⟨q0, q1, q2, q3, qf⟩ := vb.cells
  have hW := below2 hWX hb4
  have hWX4 : Below w.heap.size w X4 := by rw [hX4]; exact set4_below hW hwb _ _ _ _
  clear hgr4 hs4 hc4 V3 cfl
  go_upto_region 8 with fail
  rw [← hX4]
  clear hX4 q0 q1 q2 q3 qf vb hs hc V4' hb4 hWX
  obtain ⟨s5, s6, s7, s8, vb, hs, hc⟩ := V4.out
  obtain ⟨q0, q1, q2, q3, qf⟩ := vb.cells
  go_wp2_with fail
  go_at_call 23; refine (cw2 _ _ ⟨_, _, rfl, hs, hc⟩ hWX4).mono ?_; rintro e w5 ⟨D, ds, all, F, safe, c1, c3, ao, c2, c4, ac, rfl, hs5, hc5, hall, hac1, hac2, hal, hwn, _, hb5⟩
  have V5' : Hid (VDk w5 bd E2) := V4.out.below hb5
  have hgr5 := set4_grown w5 bd (.slice c1 D.secs.length c2) (.slice c3 D.cache.length c4) (.int .i64 D.fuse) (.bool D.off)
  obtain ⟨X5, hX5⟩ : ∃ X, X = ((((w5.setCell ⟨bd, 0, none⟩ (.slice c1 D.secs.length c2)).setCell ⟨bd, 1, none⟩ (.slice c3 D.cache.length c4)).setCell ⟨bd, 2, none⟩ (.int .i64 D.fuse)).setCell ⟨bd, 3, none⟩ (.bool D.off)) := ⟨_, rfl⟩
  have V5 : Hid (VDk X5 bd D) := by rw [hX5]; exact V5'.out.store hs5 hc5
  clear q0 q1 q2 q3 qf vb hs hc
  obtain ⟨s5, s6, s7, s8, vb, hs, hc⟩ := V5'.out
  obtain ⟨q0, q1, q2, q3, qf⟩ := vb.cells
  have HALL : Hid (Frame.HasStrs X5 (.slice ao all.length ac) all) := by rw [hX5]; exact has_box hall vb.nostr hgr5
  have hW := below2 hWX4 hb5
  have hWX5 : Below w.heap.size w X5 := by rw [hX5]; exact set4_below hW hwb _ _ _ _
  have hok := hwn.sg.ok
  have ccr := fun W v kv (hd : HasDk W v D) (hk : HasRow W kv 1 keep.length (keep.map Value.bool)) => (Disk.crash_fn D v kv keep torn bytes W hd (fits_ok hok (by rw [hwn.sg.fuse]; omega)) hk hto hby).mono (fun e w' h => back_of h)
  rw [outD_ok hok] at ccr
  have hcok := Disk.crash_ok hok keep torn bytes
  have hcr := hwn.sg.crash keep torn bytes
  have hclen : (crashD D keep torn bytes).1.secs.length = 60 := by show (Disk.settleF _ _ _ _).length = 60; rw [Disk.settleF_len]; exact hwn.sg.len
  obtain ⟨j, pg, hj1, hj2, hj3, _, _⟩ := scan_read (d := (crashD D keep torn bytes).1) (s := 2) (L := 7) (T := 2000) hcok rfl rfl (by rw [hclen]; omega) (by omega) (by rw [hclen]) hcr hwn.meet
  have csc := fun W v (hd : HasDk W v (crashD D keep torn bytes).1) => scan_any (crashD D keep torn bytes).1 v ((2 : Nat) : Int) 2000 W hd (fits_ok hcok (by show (-1 : Int) ≤ _; omega)) (by omega) (by omega)
  rw [hj3] at csc
  have hsf : safe ≤ all.length := hwn.meet.le
  have hc0 : (crashD D keep torn bytes).2 = 0 := rfl
  rw [hc0] at ccr
  unfold Back at ccr
  unfold ScanIs at csc
  simp only [e2, e2000] at ccr csc
  generalize (crashD D keep torn bytes).1 = DC at *
  clear hcr hclen hj3 hc0 hwn hok hall hgr5 hs5 hc5 hcok cw2 V4
  go_upto_region 9 with fail
  rw [← hX5]
  clear hX5 q0 q1 q2 q3 qf vb hs hc V5' hb5 hWX4
  obtain ⟨s5, s6, s7, s8, vb, hs, hc⟩ := V5.out
  obtain ⟨q0, q1, q2, q3, qf⟩ := vb.cells
  go_wp2_with fail
  go_at_call 24; refine (ccr _ _ _ ⟨_, _, rfl, hs, hc⟩ (HK9.out _ hWX5)).mono ?_; rintro e w6 ⟨e1', e2', e3', e4', rfl, hs6, hc6, hb6⟩
  have V6' : Hid (VDk w6 bd D) := V5.out.below hb6
  have hgr6 := set4_grown w6 bd (.slice e1' DC.secs.length e2') (.slice e3' DC.cache.length e4') (.int .i64 DC.fuse) (.bool DC.off)
  obtain ⟨X6, hX6⟩ : ∃ X, X = ((((w6.setCell ⟨bd, 0, none⟩ (.slice e1' DC.secs.length e2')).setCell ⟨bd, 1, none⟩ (.slice e3' DC.cache.length e4')).setCell ⟨bd, 2, none⟩ (.int .i64 DC.fuse)).setCell ⟨bd, 3, none⟩ (.bool DC.off)) := ⟨_, rfl⟩
  have V6 : Hid (VDk X6 bd DC) := by rw [hX6]; exact V6'.out.store hs6 hc6
  clear q0 q1 q2 q3 qf vb hs hc
  obtain ⟨s5, s6, s7, s8, vb, hs, hc⟩ := V6'.out
  obtain ⟨q0, q1, q2, q3, qf⟩ := vb.cells
  have HALL6 : Hid (Frame.HasStrs X6 (.slice ao all.length ac) all) := by rw [hX6]; exact has_box (HALL.out.keep hb6) vb.nostr hgr6
  have hW := below2 hWX5 hb6
  have hWX6 : Below w.heap.size w X6 := by rw [hX6]; exact set4_below hW hwb _ _ _ _
  clear hgr6 HALL ccr V5
  go_upto_region 10 with fail
  rw [← hX6]
  clear hX6 q0 q1 q2 q3 qf vb hs hc V6' hb6 hs6 hc6 hWX5 HK9 HL9 HF9 HE9
  obtain ⟨s5, s6, s7, s8, vb, hs, hc⟩ := V6.out
  obtain ⟨q0, q1, q2, q3, qf⟩ := vb.cells
  go_wp2_with fail
  go_at_call 17; refine (csc _ _ ⟨_, _, rfl, hs, hc⟩).mono ?_; rintro e w7 ⟨sv, rfl, hsv, hb7⟩
  have hW7 := below2 hWX6 hb7
  have hall7 := HALL6.out.keep hb7
  have hsv2 := hsv
  obtain ⟨mo, mc, rfl, _⟩ := hsv
  have hlt : (all.take j).length = j := by rw [List.length_take]; omega
  rw [hlt] at hsv2 ⊢
  have hcut := take_has hall7 hj2
  have csm := fun W h1 h2 => Frame.same_any (.slice mo j mc) (.slice ao j ac) (all.take j) W h1 h2 (by rw [hlt]; omega)
  have d8 : decide ((j : Int) < (safe : Int)) = false := decide_eq_false (by omega)
  have d8' : decide (j < safe) = false := decide_eq_false (by omega)
  have d9 : decide ((all.length : Int) < (j : Int)) = false := decide_eq_false (by omega)
  have d9' : decide (all.length < j) = false := decide_eq_false (by omega)
  have hjac : (j : Int) ≤ (ac : Int) := by omega
  have hji : (j : Int) ≤ 142080 := by omega
  have haci : (ac : Int) ≤ 9223372036854775807 := by omega
  have HS2 : Hid (Frame.HasStrs w7 (.slice mo j mc) (all.take j) ∧ Frame.HasStrs w7 (.slice ao j ac) (all.take j)) := ⟨hsv2, hcut⟩
  clear hsv2 hcut hall7 HALL6 q0 q1 q2 q3 qf vb hs hc V6 csc hb7 hWX6 hlt
  go_wp2_with fail
  go_at_call 21; refine (csm _ HS2.out.1 HS2.out.2).mono ?_; rintro e w8 ⟨rfl, hb8⟩
  have hW8 := below2 hW7 hb8
  go_wp2_with fail
  go_ret
  exact ⟨rfl, hW8⟩
theorem walk (ev : Value) (es : List (List (List UInt8))) (lv : Value) (ls : List (List (List UInt8))) (fv : Value) (fl : List Bool) (kv : Value) (keep : List Bool) (torn bytes : Int) (w : World)
    (b0 : HasTab w ev es) (b1 : HasTab w lv ls) (b2 : HasRow w fv 1 fl.length (fl.map Value.bool)) (b3 : HasRow w kv 1 keep.length (keep.map Value.bool)) (b4 : -9223372036854775808 ≤ torn ∧ torn ≤ 9223372036854775807) (b5 : -9223372036854775808 ≤ bytes ∧ bytes ≤ 9223372036854775807) :
    Calls Try.prog 6 #[ev, lv, fv, kv, .int .i64 torn, .int .i64 bytes] w fun e w' => e = .returned (.bool true) ∧ Below w.heap.size w w' := by
  by_cases c1 : 10 < es.length
  · exact w1 torn bytes ev lv fv kv es ls w b0 b1 c1
  by_cases c2 : 10 < ls.length
  · exact w2 torn bytes ev lv fv kv es ls w b0 b1 (by omega) c2
  exact main torn bytes ev lv fv kv es ls fl keep w (by omega) (by omega) b0 b1 b2 b3 b4 b5

set_option maxRecDepth 100000 in
theorem lifted (os : Os) (started : os.Started) (H : Type) (enc : TypeId × Value → H) :
    ReturnsInHanded {} Try.checked os 6 .any (Rows.segmentAnewSpec.pre6 enc Try.prog Try.f6 Rows.segmentAnewRow.domain false) (Rows.segmentAnewSpec.post enc Try.prog Try.f6 false true false false) := by
  refine returnsInHanded_of_change_sized (C := Try.checked) own started (by kernel_rfl) Try.func6
    (ChangeSpec.witness6 (enc := enc) (C := Try.checked) false ⟨#[], #[.slice none 0 0, .slice none 0 0, .slice none 0 0, .slice none 0 0, .int .i64 0, .int .i64 0], []⟩ 8 (by kernel_rfl) (by kernel_rfl) (by kernel_rfl) (by kernel_rfl)) ?_
  intro W base args ds gs before hval0 hW _ hsz0 _
  have hsz : (DataW.weightsEach Try.prog (Try.f6.params.toList ++ Rows.segmentAnewSpec.plain.varTypes Try.prog) (ds ++ gs)).all (· ≤ reachBytes) = true := hsz0
  clear hsz0
  have hval : ∀ (j : Nat) t v, Try.f6.params[j]? = some t → args[j]? = some v → Value.okWide Try.prog W .any base t v := hval0
  have hW' := hW
  obtain ⟨p, q, hA0, hV, rfl, hfz, hnd⟩ := hW
  have hA : DataW.TrodAll enc Try.prog W 0 (fun _ => true) true Try.f6.params.toList args.toList ds p := hA0
  rw [Try.params6] at hA hval hsz
  obtain ⟨v0, vs0, d0, ds0, p0, q0, hargs, rfl, rfl, h0, r0⟩ := trodAll_cons hA
  obtain ⟨v1, vs1, d1, ds1, p1, q1, rfl, rfl, rfl, h1, r1⟩ := trodAll_cons r0
  obtain ⟨v2, vs2, d2, ds2, p2, q2, rfl, rfl, rfl, h2, r2⟩ := trodAll_cons r1
  obtain ⟨v3, vs3, d3, ds3, p3, q3, rfl, rfl, rfl, h3, r3⟩ := trodAll_cons r2
  obtain ⟨v4, vs4, d4, ds4, p4, q4, rfl, rfl, rfl, h4, r4⟩ := trodAll_cons r3
  obtain ⟨v5, vs5, d5, ds5, p5, q5, rfl, rfl, rfl, h5, r5⟩ := trodAll_cons r4
  obtain ⟨rfl, rfl, rfl⟩ := trodAll_nil r5
  obtain rfl : args = #[v0, v1, v2, v3, v4, v5] := by cases args; simp_all
  obtain ⟨rfl, rfl⟩ := trodVars_none hV
  obtain ⟨a0, len0, cap0, rfl⟩ := okWide_slice Try.underlying43 (hval 0 43 v0 rfl rfl)
  have k0 := h0
  have lt0 : ∀ x ∈ p0, x.block < W.heap.size := by obtain ⟨m, hm⟩ := k0; exact DataW.trod_lt m _ _ _ hm
  obtain ⟨fuel0, hf0⟩ := h0
  obtain ⟨z0, b0⟩ := Seg.open_tab hf0
  obtain ⟨a1, len1, cap1, rfl⟩ := okWide_slice Try.underlying43 (hval 1 43 v1 rfl rfl)
  have k1 := h1
  have lt1 : ∀ x ∈ p1, x.block < W.heap.size := by obtain ⟨m, hm⟩ := k1; exact DataW.trod_lt m _ _ _ hm
  obtain ⟨fuel1, hf1⟩ := h1
  obtain ⟨z1, b1⟩ := Seg.open_tab hf1
  obtain ⟨a2, len2, cap2, rfl⟩ := okWide_slice Try.underlying44 (hval 2 44 v2 rfl rfl)
  have k2 := h2
  have lt2 : ∀ x ∈ p2, x.block < W.heap.size := by obtain ⟨m, hm⟩ := k2; exact DataW.trod_lt m _ _ _ hm
  obtain ⟨fuel2, hf2⟩ := h2
  obtain ⟨z2, b2⟩ := Disk.open_bools_row hf2
  obtain ⟨a3, len3, cap3, rfl⟩ := okWide_slice Try.underlying44 (hval 3 44 v3 rfl rfl)
  have k3 := h3
  have lt3 : ∀ x ∈ p3, x.block < W.heap.size := by obtain ⟨m, hm⟩ := k3; exact DataW.trod_lt m _ _ _ hm
  obtain ⟨fuel3, hf3⟩ := h3
  obtain ⟨z3, b3⟩ := Disk.open_bools_row hf3
  obtain ⟨a4, rfl, rfl, rfl, w4⟩ := open_int Try.underlying3 (hval 4 3 v4 rfl rfl) h4
  have b4 : -9223372036854775808 ≤ a4 ∧ a4 ≤ 9223372036854775807 := by simpa [Lit.wf, IntKind.min, IntKind.max, IntKind.signed, IntKind.bits] using w4
  obtain ⟨a5, rfl, rfl, rfl, w5⟩ := open_int Try.underlying3 (hval 5 3 v5 rfl rfl) h5
  have b5 : -9223372036854775808 ≤ a5 ∧ a5 ≤ 9223372036854775807 := by simpa [Lit.wf, IntKind.min, IntKind.max, IntKind.signed, IntKind.bits] using w5
  clear hA0 hval0
  refine (walk (.slice a0 len0 cap0) z0 (.slice a1 len1 cap1) z1 (.slice a2 len2 cap2) z2 (.slice a3 len3 cap3) z3 a4 a5 W b0 b1 b2 b3 b4 b5).mono fun e W' ⟨he, bel⟩ => ?_
  subst he
  exact ⟨_, rfl, _, _, _, [], _, [], hW', trodAll_mk1 (shut_bool Try.underlying4 _), (trodAll_cons_mk (Below.trod laidOut (by kernel_rfl) (of_decide_eq_true (by kernel_rfl)) k0 bel lt0) (trodAll_cons_mk (Below.trod laidOut (by kernel_rfl) (of_decide_eq_true (by kernel_rfl)) k1 bel lt1) (trodAll_cons_mk (Below.trod laidOut (by kernel_rfl) (of_decide_eq_true (by kernel_rfl)) k2 bel lt2) (trodAll_cons_mk (Below.trod laidOut (by kernel_rfl) (of_decide_eq_true (by kernel_rfl)) k3 bel lt3) (trodAll_cons_mk (shut_int Try.underlying3 w4) (trodAll_cons_mk (shut_int Try.underlying3 w5) trodAll_mk0)))))), rfl, bel.frame _, fun h => by cases h⟩

theorem over : Rows.segmentAnewRow.holds Try.pinned (OpenSpec.ofChange Rows.segmentAnewSpec) :=
  OpenClaim.holds_of_wide 6 Try.f6 rfl rfl rfl rfl rfl rfl rfl ⟨rfl, rfl, rfl, rfl, rfl⟩ rfl rfl rfl rfl rfl (by kernel_rfl) Try.func6 (by kernel_rfl)
    (of_decide_eq_true (by kernel_rfl)) (by unfold Func.isWrapper; first | (rw [if_pos (by decide +kernel)]; kernel_rfl) | (rw [if_neg (by decide +kernel)]; exact ⟨rfl, rfl⟩))
    (fun os started H enc _ => lifted os started H enc)
end segmentAnew
theorem sanew_holds : Rows.SegmentAnewSaid := segmentAnew.over
#print axioms sanew_holds
end Go.Proofs.Ytbikcpchlgmoaaa
