/- What (*drive).write does. -/
import Derived.Test.YtoigogjklhahkaaDiskRenew
import Derived.Test.YtoigogjklhahkaaDiskConcat
set_option linter.unusedVariables false
namespace Go.Proofs.Ytoigogjklhahkaa.Disk
open Go.RowKit Go.Shelf

structure Ok (d : Dk) : Prop where
  one : 1 ≤ d.secs.length
  many : d.secs.length ≤ 1024
  few : d.cache.length ≤ 4096
  fuse : -1 ≤ d.fuse
  whole : ∀ z ∈ d.secs, z.length = 128
  puts : ∀ p ∈ d.cache, inB d.secs.length p.1 = true ∧ p.2.length = 128
theorem ok_of {d : Dk} (h : okB d = true) : Ok d := by
  unfold okB at h
  simp only [Bool.and_eq_true, decide_eq_true_eq, Bool.not_eq_true'] at h
  obtain ⟨⟨⟨⟨⟨h1, h2⟩, h3⟩, h4⟩, h5⟩, h6⟩ := h
  refine ⟨h1, h2, h3, h4, fun z hz => ?_, fun p hp => ?_⟩
  · have := anyB_false h5 z hz
    simpa [badS] using this
  · have := anyB_false h6 p hp
    simpa [badP] using this
theorem anyB_none {α : Type} {p : α → Bool} {zs : List α} (h : ∀ z ∈ zs, p z = false) : anyB p zs = false := by
  unfold anyB; rw [List.any_eq_false]; intro z hz; rw [h z hz]; decide
theorem ok_mk {d : Dk} (h : Ok d) : okB d = true := by
  unfold okB
  rw [anyB_none (p := badS) (fun z hz => by simp [badS, h.whole z hz]), anyB_none (p := badP d.secs.length) (fun z hz => by simp [badP, h.puts z hz]), decide_eq_true h.fuse, decide_eq_true h.few, decide_eq_true ⟨h.one, h.many⟩]
  rfl
/-- a drive in its box, with its rows -/
def InBox (W : World) (B : Nat) (d : Dk) : Prop := ∃ s c, Box W B s c d.fuse d.off ∧ HasStrs W s d.secs ∧ HasPuts W c d.cache
def writeD (d : Dk) (at' : Int) (data : List UInt8) : Dk × Int :=
  if d.off = true then (d, 9) else if inB d.secs.length at' = false then (d, 1) else if data.length ≠ 128 then (d, 11) else if 4096 ≤ d.cache.length then (d, 8)
  else (⟨d.secs, d.cache ++ [(at', data)], spendF d.fuse d.off, offAfter d.fuse d.off⟩, spendE d.fuse d.off)
theorem cell_new2b (w : World) (o1 : Obj) (cs : Array Value) (t : TypeId) : ((w.alloc o1).alloc (.cells cs t)).cell? ⟨w.heap.size + 1, 1, none⟩ = cs[1]? := by
  have h := heap_alloc_new (w.alloc o1) (.cells cs t)
  rw [World.size_alloc] at h
  simp only [World.cell?, h]
  exact if_neg (by simp)
theorem cell_old (w : World) (cs : Array Value) (t : TypeId) (o2 : Obj) : ((w.alloc (.cells cs t)).alloc o2).cell? ⟨w.heap.size, 0, none⟩ = cs[0]? := by
  rw [((Below.refl _ (w.alloc (.cells cs t))).alloc (Nat.le_refl _) o2).cell (p := ⟨w.heap.size, 0, none⟩) (by simp)]
  simp only [World.cell?, heap_alloc_new]
  exact if_neg (by simp)
theorem cell_old1 (w : World) (cs : Array Value) (t : TypeId) (o2 : Obj) : ((w.alloc (.cells cs t)).alloc o2).cell? ⟨w.heap.size, 1, none⟩ = cs[1]? := by
  rw [((Below.refl _ (w.alloc (.cells cs t))).alloc (Nat.le_refl _) o2).cell (p := ⟨w.heap.size, 1, none⟩) (by simp)]
  simp only [World.cell?, heap_alloc_new]
  exact if_neg (by simp)
theorem own_down {W : World} {m n e size k : Nat} {v : Value} {xs : List Value} (h : W.ownsRow m e size v k xs) (hb : n ≤ m) : W.ownsRow n e size v k xs := by
  refine ⟨h.1, ?_⟩
  rcases h.2 with h | ⟨g, cap, cur, e1, hg, rest⟩
  · exact .inl h
  · exact .inr ⟨g, cap, cur, e1, Nat.le_trans hb hg, rest⟩
theorem box_ne {W : World} {B : Nat} {s c : Value} {f : Int} {o : Bool} {zs : List (List UInt8)} {ps : List PutT} (h : Box W B s c f o) (hs : HasStrs W s zs) (hc : HasPuts W c ps) (x : Nat) (z : ByteArray) : W.cell? ⟨B, x, none⟩ ≠ some (.string z) := by
  obtain ⟨so, sc, rfl, _, _⟩ := HasRow.slice hs
  obtain ⟨co, cc, rfl, _, _⟩ := HasRow.slice hc
  exact h.nostr ⟨_, _, _, rfl⟩ ⟨_, _, _, rfl⟩ x z
set_option maxHeartbeats 2000000 in
theorem write_any (B : Nat) (d : Dk) (at' : Int) (data : List UInt8) (w : World) (h : InBox w B d) (hok : Ok d) (hfu : d.fuse ≤ 9223372036854775807) (hat : -9223372036854775808 ≤ at' ∧ at' ≤ 9223372036854775807) (hd : data.length ≤ 9223372036854775807) :
    Calls Try.prog 23 #[.pointer (some ⟨B, 0, none⟩), .int .i64 at', strV data] w fun e w' => e = .returned (.int .i64 (writeD d at' data).2) ∧ InBox w' B (writeD d at' data).1 ∧ w.grownBy w' (some B) := by
  obtain ⟨s, c, hbox, hs, hc⟩ := h
  have hns := box_ne hbox hs hc
  obtain ⟨so, sc, rfl, hs1, hs2⟩ := HasRow.slice hs
  obtain ⟨co, cc, rfl, hc1, hc2⟩ := HasRow.slice hc
  obtain ⟨q0, q1, q2, q3⟩ := hbox.cells
  have hfz := hbox.frozen
  have hlt := hbox.lt
  have hfu2 := hok.fuse
  have hfew := hok.few
  have ch := fun w hc => has_any B 0 d.secs.length sc so at' w hat hc (by omega)
  have HI : Hid (InBox w B d) := ⟨_, _, hbox, hs, hc⟩
  have HBX : Hid (Box w B (.slice so d.secs.length sc) (.slice co d.cache.length cc) d.fuse d.off) := hbox
  have HS : Hid (HasStrs w (.slice so d.secs.length sc) d.secs) := hs
  have HC : Hid (HasPuts w (.slice co d.cache.length cc) d.cache) := hc
  have HNS : Hid (∀ x z, w.cell? ⟨B, x, none⟩ ≠ some (.string z)) := hns
  have HDL : Hid ((⟨data.toArray⟩ : ByteArray).size = data.length) := size_list data
  have hdata9 : data.length ≤ 9223372036854775807 := by omega
  unfold strV
  have HW : Hid (∀ (r : Dk × Int), writeD d at' data = r → (writeD d at' data).2 = r.2 ∧ (writeD d at' data).1 = r.1) := fun r h => by rw [h]; exact ⟨rfl, rfl⟩
  clear hbox hs hc hok hns
  by_cases ho : d.off = true
  · have e := HW.out _ (show writeD d at' data = (d, 9) by rw [writeD, if_pos ho])
    rw [e.1, e.2]
    rw [ho] at q3
    clear e ho HW
    go_enter Try.func23, Try.ntmps23
    go_wp2
    go_ret
    exact ⟨rfl, HI.out, World.grownBy.refl _ _⟩
  · have ho' : d.off = false := by simpa using ho
    rw [ho'] at q3
    by_cases hin : inB d.secs.length at' = false
    · have e := HW.out _ (show writeD d at' data = (d, 1) by rw [writeD, if_neg ho, if_pos hin])
      rw [e.1, e.2]
      have ch2 := ch
      rw [show decide (0 ≤ at' ∧ at' < (d.secs.length : Int)) = false from hin] at ch2
      clear e ho ho' HW hin ch
      go_enter Try.func23, Try.ntmps23
      go_wp2_with fail
      go_at_call 38; refine (ch2 _ q0).mono ?_; rintro e w1 ⟨rfl, rfl⟩
      go_wp2
      go_ret
      exact ⟨rfl, HI.out, World.grownBy.refl _ _⟩
    · have hin' : inB d.secs.length at' = true := by simpa using hin
      rw [show decide (0 ≤ at' ∧ at' < (d.secs.length : Int)) = true from hin'] at ch
      by_cases hl : data.length ≠ 128
      · have e := HW.out _ (show writeD d at' data = (d, 11) by rw [writeD, if_neg ho, if_neg hin, if_pos hl])
        rw [e.1, e.2]
        have hl' : (((⟨data.toArray⟩ : ByteArray).size : Int) != 128) = true := by rw [HDL.out]; simp; omega
        generalize (⟨data.toArray⟩ : ByteArray) = D at *
        have hD9 : D.size ≤ 9223372036854775807 := by rw [HDL.out]; exact hdata9
        clear e ho ho' HW hin hin' hl
        go_enter Try.func23, Try.ntmps23
        go_wp2_with fail
        go_at_call 38; refine (ch _ q0).mono ?_; rintro e w1 ⟨rfl, rfl⟩
        go_wp2
        go_ret
        exact ⟨rfl, HI.out, World.grownBy.refl _ _⟩
      · have hl8 : data.length = 128 := by omega
        have hl' : (((⟨data.toArray⟩ : ByteArray).size : Int) != 128) = false := by rw [HDL.out]; simp; omega
        have hDs : (⟨data.toArray⟩ : ByteArray).size ≤ 128 := by rw [HDL.out]; omega
        by_cases hf : 4096 ≤ d.cache.length
        · have e := HW.out _ (show writeD d at' data = (d, 8) by rw [writeD, if_neg ho, if_neg hin, if_neg hl, if_pos hf])
          rw [e.1, e.2]
          have hf' : decide ((4096 : Int) ≤ (d.cache.length : Int)) = true := by simp; omega
          generalize (⟨data.toArray⟩ : ByteArray) = D at *
          clear e ho ho' HW hin hin' hl hl8
          go_enter Try.func23, Try.ntmps23
          go_wp2_with fail
          go_at_call 38; refine (ch _ q0).mono ?_; rintro e w1 ⟨rfl, rfl⟩
          go_wp2
          go_ret
          exact ⟨rfl, HI.out, World.grownBy.refl _ _⟩
        · have e := HW.out _ (show writeD d at' data = _ by rw [writeD, if_neg ho, if_neg hin, if_neg hl, if_neg hf])
          rw [e.1, e.2]
          simp only
          have hf' : decide ((4096 : Int) ≤ (d.cache.length : Int)) = false := by simp; omega
          have hb2 : ∀ o1 o2 : Obj, Below w.heap.size w ((w.alloc o1).alloc o2) := fun o1 o2 => ((Below.refl _ w).alloc (Nat.le_refl _) o1).alloc (by simp) o2
          have hconc := fun (o1 o2 : Obj) h0 h1 hp => concat_any (w.heap.size + 1) d.cache.length cc co w.heap.size d.cache (at', data) ((w.alloc o1).alloc o2) (by simp) h0 h1 rfl (HC.out.keep (hb2 o1 o2)) hp (by omega)
          have HDD : Hid ((⟨data.toArray⟩ : ByteArray) = ⟨data.toArray⟩) := rfl
          have hpo := fun W b h0 h1 hb => puts_one W b (at', data) h0 h1 hb
          unfold strV at hpo
          simp only at hpo
          generalize (⟨data.toArray⟩ : ByteArray) = D at *
          clear e ho HW hin hin' hl hl8 hf HDD
          go_enter Try.func23, Try.ntmps23
          go_wp2_with fail
          go_at_call 38; refine (ch _ q0).mono ?_; rintro e w1 ⟨rfl, rfl⟩
          go_wp2_with fail
          go_at_call 39
          refine (hconc _ _ (cell_new2 _ _ _ _) (cell_new2b _ _ _ _) (hpo _ _ (cell_old _ _ _ _) (cell_old1 _ _ _ _) (by simp; omega))).mono ?_
          rintro e w2 ⟨v, rfl, hown, hb3⟩
          have hb4 : Below w1.heap.size w1 w2 := below2 (hb2 _ _) hb3
          obtain ⟨g1, cap1, rfl⟩ := ownsRow_succ hown
          have hg1 := (hown.lt g1 rfl).1
          have HB1 : Hid (Box w2 B (.slice so d.secs.length sc) (.slice co d.cache.length cc) d.fuse d.off) := HBX.out.below hb4
          have hf1 := HB1.out.frozen
          obtain ⟨p0, p1, p2, p3⟩ := HB1.out.cells
          obtain ⟨W1, hW1⟩ : ∃ W1, W1 = w2.setCell ⟨B, 1, none⟩ (.slice (some ⟨g1, 0, none⟩) (d.cache.length + 1) cap1) := ⟨_, rfl⟩
          have HB2 : Box W1 B (.slice so d.secs.length sc) (.slice (some ⟨g1, 0, none⟩) (d.cache.length + 1) cap1) d.fuse d.off := by rw [hW1]; exact (HB1.out.set).2.1 _
          have hgr1 : w1.grownBy W1 (some B) := by rw [hW1]; exact grown2 (grown_any (grown_of hb4) _) (grown_set _ _ _ _)
          have hown := own_down hown (n := w1.heap.size) (by simp; omega)
          have hg1 := (hown.lt g1 rfl).1
          have hown1 : W1.ownsRow w1.heap.size 76 2 (.slice (some ⟨g1, 0, none⟩) (d.cache.length + 1) cap1) (d.cache.length + 1) (putCs (d.cache ++ [(at', data)])) := by
            rw [hW1]; exact hown.kept (grown_set _ _ _ _) (.inr (by simp [Value.ownBlock]; omega))
          have hgB : g1 ≠ B := by omega
          have csp := spend_any B _ _ d.fuse d.off W1 HB2 ⟨hfu2, hfu⟩
          have HS1 := HS.out.box HNS.out hgr1
          rw [hW1] at csp
          go_wp2_with fail
          go_at_call 37; refine csp.mono ?_
          rw [← hW1]
          rintro e w3 ⟨rfl, hb5, hg5⟩
          have hc5 : HasPuts w3 (.slice (some ⟨g1, 0, none⟩) (d.cache.length + 1) cap1) (d.cache ++ [(at', data)]) := by
            have := hasRow_own (hown1.kept hg5 (.inr (by simp [Value.ownBlock]; exact hgB)))
            unfold HasPuts; rw [List.length_append]; exact this
          have hs5 := HS1.box (fun x z => HB2.nostr ⟨_, _, _, rfl⟩ ⟨_, _, _, rfl⟩ x z) hg5
          clear csp hW1
          go_wp2
          go_ret
          exact ⟨ret_i (by rw [ho']), ⟨_, _, hb5, hs5, hc5⟩, grown2 hgr1 hg5⟩
end Go.Proofs.Ytoigogjklhahkaa.Disk
