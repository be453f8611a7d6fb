/- What disk.Check returns, for every disk. -/
import Derived.Test.YtoigogjklhahkaaDiskBase
set_option linter.unusedVariables false
namespace Go.Proofs.Ytoigogjklhahkaa.Disk
open Go.RowKit Go.Shelf

theorem ret_b {a b : Bool} (h : a = b) : Ending.returned (.bool a) = .returned (.bool b) := by rw [h]
theorem may_any (n : Nat) (w : World) (hn : n ≤ 9223372036854775807) :
    Calls Try.prog 16 #[.int .i64 n] w fun e w' => e = .returned (.bool (decide (1 ≤ n ∧ n ≤ 1024))) ∧ w' = w := by
  by_cases h1 : 1 ≤ n
  · by_cases h2 : n ≤ 1024
    · have e : decide (1 ≤ n ∧ n ≤ 1024) = true := by simp; omega
      rw [e]; clear e
      go_enter Try.func16, Try.ntmps16
      go_wp2
      go_ret
      exact ⟨by simp; omega, rfl⟩
    · have e : decide (1 ≤ n ∧ n ≤ 1024) = false := by simp; omega
      rw [e]; clear e
      go_enter Try.func16, Try.ntmps16
      go_wp2
      go_ret
      exact ⟨by simp; omega, rfl⟩
  · have e : decide (1 ≤ n ∧ n ≤ 1024) = false := by simp; omega
    rw [e]; clear e
    go_enter Try.func16, Try.ntmps16
    go_wp2
    go_ret
    exact ⟨by simp, rfl⟩

def badS (z : List UInt8) : Bool := z.length != 128
theorem check1_any (z : List UInt8) (w : World) (hz : z.length ≤ 9223372036854775807) :
    Calls Try.prog 42 #[strV z] w fun e w' => e = .returned (.bool (badS z)) ∧ w' = w := by
  unfold strV
  have HL : Hid ((⟨z.toArray⟩ : ByteArray).size = z.length) := size_list z
  obtain ⟨S, hS⟩ : ∃ S : ByteArray, S = ⟨z.toArray⟩ := ⟨_, rfl⟩
  rw [← hS] at HL ⊢
  have hs : S.size ≤ 9223372036854775807 := by rw [HL.out]; exact hz
  clear hS
  go_enter Try.func42, Try.ntmps42
  go_wp2
  go_ret
  exact ⟨ret_b (by rw [HL.out, badS, Bool.eq_iff_iff]; simp; omega), rfl⟩

/-- whether one of them is so -/
def anyB {α : Type} (p : α → Bool) (zs : List α) : Bool := List.any zs p
theorem anyB_snoc {α : Type} (p : α → Bool) (zs : List α) (z : α) : anyB p (zs ++ [z]) = (anyB p zs || p z) := by simp [anyB]
theorem anyB_of {α : Type} {p : α → Bool} {zs : List α} {z : α} (h : z ∈ zs) (hp : p z = true) : anyB p zs = true := List.any_eq_true.2 ⟨z, h, hp⟩
theorem anyB_false {α : Type} {p : α → Bool} {zs : List α} (h : anyB p zs = false) (z : α) (hz : z ∈ zs) : p z = false := by cases hp : p z; rfl; rw [anyB_of hz hp] at h; cases h
/-- the first place at which something is so -/
theorem index_strs (p : List UInt8 → Bool) (g : Nat) (eg : ∀ args w, (callFunc g args).run Try.prog w = .ok (.enter g args) w) (zs : List (List UInt8)) (v : Value) (w : World) (h : HasStrs w v zs) (hp : ∀ z ∈ zs, ∀ w, Calls Try.prog g #[strV z] w fun e w' => e = .returned (.bool (p z)) ∧ w' = w) :
    Calls Try.prog 54 #[v, .func (.func g) #[] #[]] w fun e w' => ∃ i : Int, e = .returned (.int .i64 i) ∧ (0 ≤ i ↔ anyB p zs = true) ∧ (-1 ≤ i ∧ i ≤ 9223372036854775807) ∧ w' = w := by
  obtain ⟨o, cap, rfl, hnc, hcm⟩ := HasRow.slice h
  obtain ⟨n, hn⟩ : ∃ n, n = zs.length := ⟨_, rfl⟩
  have HN : Hid (n = zs.length) := hn
  have hn9 : n ≤ 9223372036854775807 := by omega
  rw [← hn]
  have hc : ∀ j (hj : j < zs.length), ∃ b i, o = some ⟨b, i, none⟩ ∧ w.cell? ⟨b, i + j, none⟩ = some (strV zs[j]) := fun j hj => by
    obtain ⟨b, i, e, _, q⟩ := HasStrs.cell h j hj; exact ⟨b, i, e, q⟩
  have HP : Hid (∀ z ∈ zs, ∀ w, Calls Try.prog g #[strV z] w fun e w' => e = .returned (.bool (p z)) ∧ w' = w) := hp
  have HC : Hid (∀ j (hj : j < zs.length), ∃ b i, o = some ⟨b, i, none⟩ ∧ w.cell? ⟨b, i + j, none⟩ = some (strV zs[j])) := hc
  clear hn h hp hc
  go_enter Try.func54, Try.ntmps54
  go_wp2_with fail
  go_loop [8] (fun i => ∃ k : Nat, k ≤ n ∧ i = .int .i64 k ∧ anyB p (zs.take k) = false) (fun i => n - (intOf i).toNat)
  case atStart => exact ⟨0, by omega, rfl, rfl⟩
  case round =>
    obtain ⟨k, hk, rfl, hno⟩ := hrel
    by_cases hlt : k < n
    · have hkz : k < zs.length := by rw [← HN.out]; exact hlt
      obtain ⟨b, i, rfl, q⟩ := HC.out k hkz
      have c1 := HP.out zs[k] (List.getElem_mem hkz)
      have HT : Hid (zs.take (k + 1) = zs.take k ++ [zs[k]]) := List.take_succ_eq_append_getElem hkz
      have HM : Hid (zs[k] ∈ zs) := List.getElem_mem hkz
      have HO : Hid (anyB p (zs.take k) = false) := hno
      clear hno
      generalize zs[k] = z at q c1 HT HM
      unfold strV at q c1
      generalize (⟨z.toArray⟩ : ByteArray) = S at q c1
      obtain ⟨r, hr⟩ : ∃ r, r = p z := ⟨_, rfl⟩
      have HR : Hid (r = p z) := hr
      rw [← hr] at c1
      clear hr
      go_wp2_with fail
      refine (c1 _).mono ?_
      rintro e w1 ⟨rfl, rfl⟩
      cases r with
      | true =>
        go_wp2
        go_ret
        exact ⟨_, rfl, ⟨fun _ => anyB_of HM.out HR.out.symm, fun _ => by omega⟩, by omega, rfl⟩
      | false =>
        go_wp2
        go_round
        case rel => exact ⟨k + 1, by omega, by go_num, by rw [HT.out, anyB_snoc, HO.out, ← HR.out]; rfl⟩
        case measure => simp [intOf]; omega
    · obtain rfl : k = n := by omega
      have HO : Hid (anyB p (zs.take k) = false) := hno
      clear hno
      go_wp2
      go_ret
      exact ⟨_, rfl, ⟨fun h => by omega, fun h => absurd h (by have := HO.out; rw [HN.out, List.take_length] at this; rw [this]; decide)⟩, by omega, rfl⟩
theorem contains_strs (p : List UInt8 → Bool) (g : Nat) (eg : ∀ args w, (callFunc g args).run Try.prog w = .ok (.enter g args) w) (zs : List (List UInt8)) (v : Value) (w : World) (h : HasStrs w v zs) (hp : ∀ z ∈ zs, ∀ w, Calls Try.prog g #[strV z] w fun e w' => e = .returned (.bool (p z)) ∧ w' = w) :
    Calls Try.prog 41 #[v, .func (.func g) #[] #[]] w fun e w' => e = .returned (.bool (anyB p zs)) ∧ w' = w := by
  have c1 := index_strs p g eg zs v w h hp
  obtain ⟨r, hr⟩ : ∃ r, r = anyB p zs := ⟨_, rfl⟩
  rw [← hr] at c1 ⊢
  clear h hp hr eg
  go_enter Try.func41, Try.ntmps41
  go_wp2_with fail
  go_at_call 54
  refine c1.mono ?_
  rintro e w1 ⟨i, rfl, hi, hi2, rfl⟩
  go_wp2
  go_ret
  exact ⟨ret_b (by rw [Bool.eq_iff_iff, ← hi]), rfl⟩
theorem has_any (B o n cap : Nat) (s : Option Addr) (at' : Int) (w : World) (hat : -9223372036854775808 ≤ at' ∧ at' ≤ 9223372036854775807) (hc : w.cell? ⟨B, 0, none⟩ = some (.slice s n cap)) (hn : n ≤ 9223372036854775807) :
    Calls Try.prog 38 #[.pointer (some ⟨B, 0, none⟩), .int .i64 at'] w fun e w' => e = .returned (.bool (decide (0 ≤ at' ∧ at' < (n : Int)))) ∧ w' = w := by
  by_cases h1 : 0 ≤ at'
  · have e : decide (0 ≤ at' ∧ at' < (n : Int)) = decide (at' < (n : Int)) := by rw [decide_eq_decide]; omega
    rw [e]; clear e
    have h1' : decide (0 ≤ at') = true := by simpa using h1
    go_enter Try.func38, Try.ntmps38
    go_wp2
    go_ret
    exact ⟨rfl, rfl⟩
  · have e : decide (0 ≤ at' ∧ at' < (n : Int)) = false := by rw [decide_eq_false_iff_not]; omega
    rw [e]; clear e
    have h1' : decide (0 ≤ at') = false := by simpa using h1
    go_enter Try.func38, Try.ntmps38
    go_wp2
    go_ret
    exact ⟨rfl, rfl⟩
def inB (n : Nat) (at' : Int) : Bool := decide (0 ≤ at' ∧ at' < (n : Int))
def badP (n : Nat) (p : PutT) : Bool := !(inB n p.1) || p.2.length != 128
def putV (p : PutT) : Value := .agg #[.int .i64 p.1, strV p.2]
set_option maxHeartbeats 400000 in
theorem check2_any (B n cap : Nat) (s : Option Addr) (p : PutT) (w : World) (hp : (-9223372036854775808 ≤ p.1 ∧ p.1 ≤ 9223372036854775807) ∧ p.2.length ≤ 9223372036854775807) (hB : B < w.heap.size) (hc : w.cell? ⟨B, 0, none⟩ = some (.slice s n cap)) (hn : n ≤ 9223372036854775807) :
    Calls Try.prog 44 #[putV p, .pointer (some ⟨B, 0, none⟩)] w fun e w' => e = .returned (.bool (badP n p)) ∧ Below w.heap.size w w' := by
  obtain ⟨a, z⟩ := p
  obtain ⟨ha, hz⟩ := hp
  simp only at ha hz
  have c1 := fun w hc => has_any B 0 n cap s a w ha hc hn
  unfold putV strV
  have HL : Hid ((⟨z.toArray⟩ : ByteArray).size = z.length) := size_list z
  obtain ⟨r, hr⟩ : ∃ r, r = decide (0 ≤ a ∧ a < (n : Int)) := ⟨_, rfl⟩
  have HR : Hid (badP n (a, z) = (!r || z.length != 128)) := by rw [hr]; rfl
  rw [← hr] at c1
  clear hr
  simp only
  obtain ⟨S, hS⟩ : ∃ S : ByteArray, S = ⟨z.toArray⟩ := ⟨_, rfl⟩
  rw [← hS] at HL ⊢
  have hs : S.size ≤ 9223372036854775807 := by rw [HL.out]; exact hz
  clear hS
  have hcc : ∀ o : Obj, (w.alloc o).cell? ⟨B, 0, none⟩ = some (.slice s n cap) := fun o => by
    rw [← hc]; exact ((Below.refl _ w).alloc (Nat.le_refl _) o).cell (p := ⟨B, 0, none⟩) hB
  go_enter Try.func44, Try.ntmps44
  go_wp2_with fail
  go_at_call 38
  refine (c1 _ (hcc _)).mono ?_
  rintro e w1 ⟨rfl, rfl⟩
  cases r with
  | true =>
    go_wp2
    go_ret
    exact ⟨ret_b (by rw [HR.out, HL.out, Bool.eq_iff_iff]; simp; omega), (Below.refl _ w).alloc (Nat.le_refl _) _⟩
  | false =>
    go_wp2
    go_ret
    exact ⟨ret_b (by rw [HR.out]; rfl), (Below.refl _ w).alloc (Nat.le_refl _) _⟩

set_option maxHeartbeats 400000 in
theorem index_puts (p : PutT → Bool) (g : Nat) (lb : Value) (eg : ∀ args w, (callFunc g args).run Try.prog w = .ok (.enter g args) w) (zs : List PutT) (v : Value) (w : World) (h : HasPuts w v zs)
    (hp : ∀ z ∈ zs, ∀ W, Below w.heap.size w W → Calls Try.prog g #[putV z, lb] W fun e w' => e = .returned (.bool (p z)) ∧ Below W.heap.size W w') :
    Calls Try.prog 55 #[v, .func (.func g) #[] #[lb]] w fun e w' => ∃ i : Int, e = .returned (.int .i64 i) ∧ (0 ≤ i ↔ anyB p zs = true) ∧ (-1 ≤ i ∧ i ≤ 9223372036854775807) ∧ Below w.heap.size w w' := by
  obtain ⟨o, cap, rfl, hnc, hcm⟩ := HasRow.slice h
  obtain ⟨n, hn⟩ : ∃ n, n = zs.length := ⟨_, rfl⟩
  have HN : Hid (n = zs.length) := hn
  have hn9 : n ≤ 9223372036854775807 := by omega
  rw [← hn]
  have hc := fun j hj => HasPuts.cell h j hj
  have HP : Hid (∀ z ∈ zs, ∀ W, Below w.heap.size w W → Calls Try.prog g #[putV z, lb] W fun e w' => e = .returned (.bool (p z)) ∧ Below W.heap.size W w') := hp
  have HC : Hid (∀ j (hj : j < zs.length), ∃ b i, o = some ⟨b, i, none⟩ ∧ b < w.heap.size ∧ w.cell? ⟨b, i + j * 2, none⟩ = some (.int .i64 zs[j].1) ∧ w.cell? ⟨b, i + j * 2 + 1, none⟩ = some (strV zs[j].2)) := hc
  clear hn h hp hc
  go_enter Try.func55, Try.ntmps55
  go_wp2_with fail
  go_loopw [8] (fun i wr => ∃ k : Nat, k ≤ n ∧ i = .int .i64 k ∧ anyB p (zs.take k) = false ∧ Below w.heap.size w wr) (fun i _ => n - (intOf i).toNat)
  case atStart => exact ⟨0, by omega, rfl, rfl, Below.refl _ _⟩
  case round =>
    obtain ⟨k, hk, rfl, hno, hB⟩ := hrel
    by_cases hlt : k < n
    · have hkz : k < zs.length := by rw [← HN.out]; exact hlt
      obtain ⟨b, i, rfl, hb, q1, q2⟩ := HC.out k hkz
      rw [← hB.cell (p := ⟨b, i + k * 2, none⟩) hb] at q1
      rw [← hB.cell (p := ⟨b, i + k * 2 + 1, none⟩) hb] at q2
      have c1 := HP.out zs[k] (List.getElem_mem hkz) _ hB
      have HT : Hid (zs.take (k + 1) = zs.take k ++ [zs[k]]) := List.take_succ_eq_append_getElem hkz
      have HM : Hid (zs[k] ∈ zs) := List.getElem_mem hkz
      have HO : Hid (anyB p (zs.take k) = false) := hno
      clear hno
      generalize zs[k] = z at q1 q2 c1 HT HM
      unfold putV strV at c1
      unfold strV at q2
      generalize (⟨z.2.toArray⟩ : ByteArray) = S at q2 c1
      obtain ⟨A, hA⟩ : ∃ A, A = z.1 := ⟨_, rfl⟩
      rw [← hA] at q1 c1
      clear hA
      obtain ⟨r, hr⟩ : ∃ r, r = p z := ⟨_, rfl⟩
      have HR : Hid (r = p z) := hr
      rw [← hr] at c1
      clear hr
      go_wp2_with fail
      refine c1.mono ?_
      rintro e w1 ⟨rfl, hb1⟩
      cases r with
      | true =>
        go_wp2
        go_ret
        exact ⟨_, rfl, ⟨fun _ => anyB_of HM.out HR.out.symm, fun _ => by omega⟩, by omega, hB.trans (hb1.mono hB.size)⟩
      | false =>
        go_wp2
        go_roundw
        case rel => exact ⟨k + 1, by omega, by go_num, by rw [HT.out, anyB_snoc, HO.out, ← HR.out]; rfl, hB.trans (hb1.mono hB.size)⟩
        case measure => simp [intOf]; omega
    · obtain rfl : k = n := by omega
      have HO : Hid (anyB p (zs.take k) = false) := hno
      clear hno
      go_wp2
      go_ret
      exact ⟨_, rfl, ⟨fun h => by omega, fun h => absurd h (by have := HO.out; rw [HN.out, List.take_length] at this; rw [this]; decide)⟩, by omega, hB⟩
theorem contains_puts (p : PutT → Bool) (g : Nat) (lb : Value) (eg : ∀ args w, (callFunc g args).run Try.prog w = .ok (.enter g args) w) (zs : List PutT) (v : Value) (w : World) (h : HasPuts w v zs)
    (hp : ∀ z ∈ zs, ∀ W, Below w.heap.size w W → Calls Try.prog g #[putV z, lb] W fun e w' => e = .returned (.bool (p z)) ∧ Below W.heap.size W w') :
    Calls Try.prog 43 #[v, .func (.func g) #[] #[lb]] w fun e w' => e = .returned (.bool (anyB p zs)) ∧ Below w.heap.size w w' := by
  have c1 := index_puts p g lb eg zs v w h hp
  obtain ⟨r, hr⟩ : ∃ r, r = anyB p zs := ⟨_, rfl⟩
  rw [← hr] at c1 ⊢
  clear h hp hr eg
  go_enter Try.func43, Try.ntmps43
  go_wp2_with fail
  go_at_call 55
  refine c1.mono ?_
  rintro e w1 ⟨i, rfl, hi, hi2, hb⟩
  go_wp2
  go_ret
  exact ⟨ret_b (by rw [Bool.eq_iff_iff, ← hi]), hb⟩
def okB (d : Dk) : Bool := decide (1 ≤ d.secs.length ∧ d.secs.length ≤ 1024) && decide (d.cache.length ≤ 4096) && decide (-1 ≤ d.fuse) && !anyB badS d.secs && !anyB (badP d.secs.length) d.cache
def checkE (d : Dk) : Int := if okB d then 0 else 2
theorem enters43 : ∀ args w, (callFunc 42 args).run Try.prog w = .ok (.enter 42 args) w := enters_of Try.func42 (by kernel_rfl) rfl
theorem enters45 : ∀ args w, (callFunc 44 args).run Try.prog w = .ok (.enter 44 args) w := enters_of Try.func44 (by kernel_rfl) rfl
theorem checkE_ok {d : Dk} (h : okB d = true) : checkE d = 0 := by rw [checkE, if_pos h]
theorem checkE_bad {d : Dk} (h : okB d = false) : checkE d = 2 := by rw [checkE, h]; rfl
theorem ret_i {k : IntKind} {a b : Int} (h : a = b) : Ending.returned (.int k a) = .returned (.int k b) := by rw [h]
theorem has2 {w : World} {v : Value} {zs : List (List UInt8)} (h : HasStrs w v zs) (o1 o2 : Obj) : HasStrs ((w.alloc o1).alloc o2) v zs :=
  h.keep (((Below.refl _ w).alloc (Nat.le_refl _) o1).alloc (by simp) o2)
theorem puts2 {w : World} {v : Value} {zs : List PutT} (h : HasPuts w v zs) (o1 o2 : Obj) : HasPuts ((w.alloc o1).alloc o2) v zs :=
  h.keep (((Below.refl _ w).alloc (Nat.le_refl _) o1).alloc (by simp) o2)
theorem cell_new2 (w : World) (o1 : Obj) (cs : Array Value) (t : TypeId) : ((w.alloc o1).alloc (.cells cs t)).cell? ⟨w.heap.size + 1, 0, none⟩ = cs[0]? := by
  have h := heap_alloc_new (w.alloc o1) (.cells cs t)
  rw [World.size_alloc] at h
  simp only [World.cell?, h]
  exact if_neg (by simp)
set_option maxHeartbeats 1000000 in
theorem check_any (d : Dk) (v : Value) (w : World) (h : HasDk w v d) (hf : Fits d) :
    Calls Try.prog 27 #[v] w fun e w' => e = .returned (.int .i64 (checkE d)) ∧ Below w.heap.size w w' := by
  obtain ⟨s, c, rfl, hs, hc⟩ := h
  obtain ⟨so, sc, rfl, hs1, hs2⟩ := HasRow.slice hs
  obtain ⟨co, cc, rfl, hc1, hc2⟩ := HasRow.slice hc
  obtain ⟨hff, hfs, hfp⟩ := hf
  obtain ⟨secs, cache, fuse, off⟩ := d
  simp only at hs hs1 hs2 hc hc1 hc2 hff hfs hfp ⊢
  have c1 := fun w => may_any secs.length w (by omega)
  have c2 := fun w hh => contains_strs badS 42 enters43 secs (.slice so secs.length sc) w hh (fun z hz w => check1_any z w (hfs z hz))
  have c3 := fun (B : Nat) (w : World) hh hB hc => contains_puts (badP secs.length) 44 (.pointer (some ⟨B, 0, none⟩)) enters45 cache (.slice co cache.length cc) w hh
    (fun z hz W hb => (check2_any B secs.length sc so z W (hfp z hz) (Nat.lt_of_lt_of_le hB hb.size) ((hb.cell (p := ⟨B, 0, none⟩) hB).trans hc) (by omega)))
  have HK : Hid (okB ⟨secs, cache, fuse, off⟩ = (decide (1 ≤ secs.length ∧ secs.length ≤ 1024) && decide (cache.length ≤ 4096) && decide (-1 ≤ fuse) && !anyB badS secs && !anyB (badP secs.length) cache)) := rfl
  have hs0 := fun o1 o2 => has2 hs o1 o2
  have hc0 := fun o1 o2 => puts2 hc o1 o2
  obtain ⟨r1, hr1⟩ : ∃ r, r = decide (1 ≤ secs.length ∧ secs.length ≤ 1024) := ⟨_, rfl⟩
  obtain ⟨r2, hr2⟩ : ∃ r, r = anyB badS secs := ⟨_, rfl⟩
  obtain ⟨r3, hr3⟩ : ∃ r, r = anyB (badP secs.length) cache := ⟨_, rfl⟩
  rw [← hr1] at c1 HK
  rw [← hr2] at c2 HK
  rw [← hr3] at c3 HK
  clear hr1 hr2 hr3 hs hc
  have h8 : ∀ o1 o2 : Obj, Below w.heap.size w ((w.alloc o1).alloc o2) := fun o1 o2 => ((Below.refl _ w).alloc (Nat.le_refl _) o1).alloc (by simp) o2
  have hn9 : secs.length ≤ 9223372036854775807 := by omega
  have hm9 : cache.length ≤ 9223372036854775807 := by omega
  generalize secs.length = n at *
  generalize cache.length = m at *
  cases r1 with
  | false =>
    go_enter Try.func27, Try.ntmps27
    go_wp2_with fail
    go_at_call 16; refine (c1 _).mono ?_; rintro e w1 ⟨rfl, rfl⟩
    go_wp2
    go_ret
    exact ⟨ret_i (checkE_bad (by rw [HK.out]; rfl)).symm, h8 _ _⟩
  | true =>
    by_cases hm : m ≤ 4096
    · have hm' : decide (4096 < (m : Int)) = false := by simp; omega
      by_cases hu : -1 ≤ fuse
      · have hu' : decide (fuse < -1) = false := by simp; omega
        have HK2 : Hid (okB ⟨secs, cache, fuse, off⟩ = (!r2 && !r3)) := by rw [Hid, HK.out, decide_eq_true hm, decide_eq_true hu]; simp
        clear HK
        go_enter Try.func27, Try.ntmps27
        go_wp2_with fail
        go_at_call 16; refine (c1 _).mono ?_; rintro e w1 ⟨rfl, rfl⟩
        go_wp2_with fail
        go_at_call 41; refine (c2 _ (hs0 _ _)).mono ?_; rintro e w1 ⟨rfl, rfl⟩
        cases r2 with
        | true =>
          go_wp2
          go_ret
          exact ⟨ret_i (checkE_bad (by rw [HK2.out]; rfl)).symm, h8 _ _⟩
        | false =>
          go_wp2_with fail
          go_at_call 43; refine (c3 _ _ (hc0 _ _) (by simp) (cell_new2 _ _ _ _)).mono ?_; rintro e w1 ⟨rfl, hb⟩
          have h9 := below2 (h8 _ _) hb
          cases r3 with
          | true =>
            go_wp2
            go_ret
            exact ⟨ret_i (checkE_bad (by rw [HK2.out]; rfl)).symm, h9⟩
          | false =>
            go_wp2
            go_ret
            exact ⟨ret_i (checkE_ok (by rw [HK2.out]; rfl)).symm, h9⟩
      · have hu' : decide (fuse < -1) = true := by simp; omega
        go_enter Try.func27, Try.ntmps27
        go_wp2_with fail
        go_at_call 16; refine (c1 _).mono ?_; rintro e w1 ⟨rfl, rfl⟩
        go_wp2
        go_ret
        exact ⟨ret_i (checkE_bad (by rw [HK.out, decide_eq_false (show ¬ -1 ≤ fuse by omega)]; simp)).symm, h8 _ _⟩
    · have hm' : decide (4096 < (m : Int)) = true := by simp; omega
      go_enter Try.func27, Try.ntmps27
      go_wp2_with fail
      go_at_call 16; refine (c1 _).mono ?_; rintro e w1 ⟨rfl, rfl⟩
      go_wp2
      go_ret
      exact ⟨ret_i (checkE_bad (by rw [HK.out, decide_eq_false (show ¬ m ≤ 4096 by omega)]; simp)).symm, h8 _ _⟩
end Go.Proofs.Ytoigogjklhahkaa.Disk
