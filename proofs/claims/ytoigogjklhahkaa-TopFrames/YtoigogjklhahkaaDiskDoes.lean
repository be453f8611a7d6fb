/- What disk.Write, Flush, Crash and Held return, for every disk. -/
import Derived.Test.YtoigogjklhahkaaDiskWrite
set_option linter.unusedVariables false
namespace Go.Proofs.Ytoigogjklhahkaa.Disk
open Go.RowKit Go.Shelf

def wholeF : Nat → Nat := fun _ => 128
def flushD (d : Dk) : Dk × Int := if offAfter d.fuse d.off = true then (⟨d.secs, d.cache, spendF d.fuse d.off, true⟩, 9) else (⟨settleF wholeF 0 d.secs d.cache, [], spendF d.fuse d.off, false⟩, 0)
def crashD (d : Dk) (keep : List Bool) (torn bytes : Int) : Dk × Int := (⟨settleF (partN keep torn bytes) 0 d.secs d.cache, [], -1, false⟩, 0)
theorem enters49 : ∀ args w, (callFunc 28 args).run Try.prog w = .ok (.enter 28 args) w := enters_of Try.func28 (by kernel_rfl) rfl
theorem enters46 : ∀ args w, (callFunc 24 args).run Try.prog w = .ok (.enter 24 args) w := enters_of Try.func24 (by kernel_rfl) rfl
theorem settle_whole (B : Nat) (s c : Value) (d : Dk) (w : World) (h : Box w B s c d.fuse d.off) (hs : HasStrs w s d.secs) (hc : HasPuts w c d.cache) (hok : Ok d) :
    Calls Try.prog 26 #[.pointer (some ⟨B, 0, none⟩), .func (.func 28) #[] #[]] w fun e w' => ∃ s', e = .returned (.tuple #[]) ∧ Box w' B s' (.slice none 0 0) d.fuse d.off ∧ HasStrs w' s' (settleF wholeF 0 d.secs d.cache) ∧ w.grownBy w' (some B) := by
  refine (settle_any B 28 #[] enters49 wholeF (fun _ => Nat.le_refl _) s c d.fuse d.off d.secs d.cache w h hs hc hok.whole hok.puts hok.one hok.many hok.few (fun i hi W hW => whole_any i W)).mono ?_
  rintro e w' ⟨s', rfl, h1, h2, h3⟩
  exact ⟨s', rfl, h1, by unfold HasStrs; rw [settleF_len]; exact hasRow_own h2, h3⟩
theorem ret_i3 {a b : Int} (h : a = b) : Ending.returned (.int .i64 a) = .returned (.int .i64 b) := by rw [h]
set_option maxHeartbeats 1000000 in
theorem flush_any (B : Nat) (d : Dk) (w : World) (h : InBox w B d) (hok : Ok d) (hfu : d.fuse ≤ 9223372036854775807) :
    Calls Try.prog 21 #[.pointer (some ⟨B, 0, none⟩)] w fun e w' => e = .returned (.int .i64 (flushD d).2) ∧ InBox w' B (flushD d).1 ∧ w.grownBy w' (some B) := by
  obtain ⟨s, c, hbox, hs, hc⟩ := h
  have hns := box_ne hbox hs hc
  have csp := spend_any B s c d.fuse d.off w hbox ⟨hok.fuse, hfu⟩
  have HH : Hid (Box w B s c d.fuse d.off ∧ HasStrs w s d.secs ∧ HasPuts w c d.cache ∧ ∀ x z, w.cell? ⟨B, x, none⟩ ≠ some (.string z)) := ⟨hbox, hs, hc, hns⟩
  have HOK : Hid (Ok d) := hok
  clear hbox hs hc hns hok
  cases hoff : offAfter d.fuse d.off with
  | true =>
    have HE : Hid (flushD d = (⟨d.secs, d.cache, spendF d.fuse d.off, true⟩, 9)) := by show _ = _; rw [flushD, if_pos hoff]
    have e9 : spendE d.fuse d.off = 9 := by unfold spendE; unfold offAfter at hoff; rw [hoff]; rfl
    rw [e9, hoff] at csp
    clear hoff e9
    go_enter Try.func21, Try.ntmps21
    go_wp2_with fail
    go_at_call 37; refine csp.mono ?_; rintro e w3 ⟨rfl, hb5, hg5⟩
    go_wp2
    go_ret
    exact ⟨ret_i3 (by rw [HE.out]), by rw [HE.out]; exact ⟨s, c, hb5, HH.out.2.1.box HH.out.2.2.2 hg5, HH.out.2.2.1.box HH.out.2.2.2 hg5⟩, hg5⟩
  | false =>
    have HE : Hid (flushD d = (⟨settleF wholeF 0 d.secs d.cache, [], spendF d.fuse d.off, false⟩, 0)) := by show _ = _; rw [flushD, hoff]; rfl
    have e9 : spendE d.fuse d.off = 0 := by unfold spendE; unfold offAfter at hoff; rw [hoff]; rfl
    rw [e9, hoff] at csp
    clear hoff e9
    go_enter Try.func21, Try.ntmps21
    go_wp2_with fail
    go_at_call 37; refine csp.mono ?_; rintro e w3 ⟨rfl, hb5, hg5⟩
    have cst := settle_whole B s c ⟨d.secs, d.cache, spendF d.fuse d.off, false⟩ w3 hb5 (HH.out.2.1.box HH.out.2.2.2 hg5) (HH.out.2.2.1.box HH.out.2.2.2 hg5) ⟨HOK.out.one, HOK.out.many, HOK.out.few, by unfold spendF; have := HOK.out.fuse; simp only; split; omega; split <;> omega, HOK.out.whole, HOK.out.puts⟩
    go_wp2_with fail
    go_at_call 26; refine cst.mono ?_; rintro e w4 ⟨s', rfl, hb6, hs6, hg6⟩
    go_wp2
    go_ret
    exact ⟨ret_i3 (by rw [HE.out]), by rw [HE.out]; exact ⟨s', _, hb6, hs6, hasRow_nil _ _⟩, grown2 hg5 hg6⟩

theorem write1_any (B p q : Nat) (d : Dk) (at' : Int) (data : List UInt8) (w : World) (h : InBox w B d) (hok : Ok d) (hfu : d.fuse ≤ 9223372036854775807) (hat : -9223372036854775808 ≤ at' ∧ at' ≤ 9223372036854775807) (hd : data.length ≤ 9223372036854775807)
    (hp : w.cell? ⟨p, 0, none⟩ = some (.int .i64 at')) (hq : w.cell? ⟨q, 0, none⟩ = some (strV data)) :
    Calls Try.prog 22 #[.pointer (some ⟨B, 0, none⟩), .pointer (some ⟨p, 0, none⟩), .pointer (some ⟨q, 0, none⟩)] w fun e w' => e = .returned (.int .i64 (writeD d at' data).2) ∧ InBox w' B (writeD d at' data).1 ∧ w.grownBy w' (some B) := by
  have c1 := write_any B d at' data w h hok hfu hat hd
  unfold strV at hq c1
  generalize (⟨data.toArray⟩ : ByteArray) = D at hq c1
  generalize (writeD d at' data).2 = r at c1 ⊢
  clear h hok
  go_enter Try.func22, Try.ntmps22
  go_wp2_with fail
  go_at_call 23; refine c1.mono ?_; rintro e w1 ⟨rfl, h1, h2⟩
  go_wp2
  go_ret
  exact ⟨rfl, h1, h2⟩
theorem flush1_any (B : Nat) (d : Dk) (w : World) (h : InBox w B d) (hok : Ok d) (hfu : d.fuse ≤ 9223372036854775807) :
    Calls Try.prog 20 #[.pointer (some ⟨B, 0, none⟩)] w fun e w' => e = .returned (.int .i64 (flushD d).2) ∧ InBox w' B (flushD d).1 ∧ w.grownBy w' (some B) := by
  have c1 := flush_any B d w h hok hfu
  generalize (flushD d).2 = r at c1 ⊢
  clear h hok
  go_enter Try.func20, Try.ntmps20
  go_wp2_with fail
  go_at_call 21; refine c1.mono ?_; rintro e w1 ⟨rfl, h1, h2⟩
  go_wp2
  go_ret
  exact ⟨rfl, h1, h2⟩
theorem crash2_any (B t b k x : Nat) (d : Dk) (keep : List Bool) (torn bytes : Int) (w : World) (h : InBox w B d) (hok : Ok d) (hbt : -9223372036854775808 ≤ bytes ∧ bytes ≤ 9223372036854775807)
    (hx : w.cell? ⟨x, 0, none⟩ = some (.func (.func 24) #[] #[.pointer (some ⟨t, 0, none⟩), .pointer (some ⟨b, 0, none⟩), .pointer (some ⟨k, 0, none⟩)]))
    (hpb : ∀ W, w.grownBy W (some B) → PartBox W t b k keep torn bytes) :
    Calls Try.prog 25 #[.pointer (some ⟨B, 0, none⟩), .pointer (some ⟨x, 0, none⟩)] w fun e w' => e = .returned (.int .i64 (crashD d keep torn bytes).2) ∧ InBox w' B (crashD d keep torn bytes).1 ∧ w.grownBy w' (some B) := by
  obtain ⟨s, c, hbox, hs, hc⟩ := h
  have c1 := settle_any B 24 #[.pointer (some ⟨t, 0, none⟩), .pointer (some ⟨b, 0, none⟩), .pointer (some ⟨k, 0, none⟩)] enters46 (partN keep torn bytes) (partN_le keep torn bytes) s c d.fuse d.off d.secs d.cache w hbox hs hc hok.whole hok.puts hok.one hok.many hok.few
    (fun i hi W hW => part_any t b k keep torn bytes i W (hpb W hW) hbt (by have := hok.few; omega))
  have HL : Hid (d.secs.length = (settleF (partN keep torn bytes) 0 d.secs d.cache).length) := (settleF_len _ _ _ _).symm
  clear hbox hs hc hok hpb
  show Calls _ _ _ _ fun e w' => e = .returned (.int .i64 0) ∧ InBox w' B ⟨_, [], -1, false⟩ ∧ _
  go_enter Try.func25, Try.ntmps25
  go_wp2_with fail
  go_at_call 26; refine c1.mono ?_; rintro e w1 ⟨s', rfl, h1, h2, h3⟩
  obtain ⟨so, sc, rfl, _, _⟩ := HasRow.slice (hasRow_own h2)
  obtain ⟨p0, p1, p2, p3⟩ := h1.cells
  have hfz := h1.frozen
  have hB2 := (h1.set).2.2.1 (-1)
  have hB3 := (hB2.set).2.2.2 false
  have hc3 := hB2.cells.2.2.2
  have hf3 := hB2.frozen
  go_wp2
  go_ret
  refine ⟨rfl, ⟨_, _, hB3, ?_, hasRow_nil _ _⟩, grown2 h3 (grown2 (grown_set _ _ _ _) (grown_set _ _ _ _))⟩
  have : HasStrs w1 (.slice so d.secs.length sc) (settleF (partN keep torn bytes) 0 d.secs d.cache) := by unfold HasStrs; rw [← HL.out]; exact hasRow_own h2
  exact (this.box (fun x z => h1.nostr ⟨_, _, _, rfl⟩ ⟨_, _, _, rfl⟩ x z) (grown_set _ _ _ _)).box (fun x z => hB2.nostr ⟨_, _, _, rfl⟩ ⟨_, _, _, rfl⟩ x z) (grown_set _ _ _ _)
end Go.Proofs.Ytoigogjklhahkaa.Disk
