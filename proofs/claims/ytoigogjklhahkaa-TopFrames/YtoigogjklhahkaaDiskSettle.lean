/- What (*drive).settle does. -/
import Derived.Test.YtoigogjklhahkaaDiskSpend
set_option linter.unusedVariables false
namespace Go.Proofs.Ytoigogjklhahkaa.Disk
open Go.RowKit Go.Shelf

/-- of the write at place i the first (part i) bytes are written -/
def cutIn (n : Nat) (p z : List UInt8) : List UInt8 := p.take n ++ z.drop n
def settleF (part : Nat → Nat) : Nat → List (List UInt8) → List PutT → List (List UInt8)
  | _, secs, [] => secs
  | i, secs, p :: ps => settleF part (i + 1) (secs.set p.1.toNat (cutIn (part i) p.2 (secs.getD p.1.toNat []))) ps
theorem settleF_snoc (part : Nat → Nat) (ps : List PutT) : ∀ i secs p, settleF part i secs (ps ++ [p]) = (settleF part i secs ps).set p.1.toNat (cutIn (part (i + ps.length)) p.2 ((settleF part i secs ps).getD p.1.toNat [])) := by
  induction ps with
  | nil => intro i secs p; rfl
  | cons q ps ih =>
    intro i secs p
    rw [List.cons_append, settleF, ih, settleF, List.length_cons, show i + 1 + ps.length = i + (ps.length + 1) by omega]
theorem settleF_len (part : Nat → Nat) (ps : List PutT) : ∀ i secs, (settleF part i secs ps).length = secs.length := by
  induction ps with
  | nil => intro i secs; rfl
  | cons q ps ih => intro i secs; rw [settleF, ih, List.length_set]
theorem cutIn_len (n : Nat) (p z : List UInt8) (hp : p.length = 128) (hz : z.length = 128) (hn : n ≤ 128) : (cutIn n p z).length = 128 := by
  rw [cutIn, List.length_append, List.length_take, List.length_drop]; omega
theorem getD_mem {zs : List (List UInt8)} {k : Nat} (h : k < zs.length) : zs.getD k [] ∈ zs := by
  rw [List.getD_eq_getElem?_getD, List.getElem?_eq_getElem h]; exact List.getElem_mem h
theorem mem_set_or {α : Type} {zs : List α} {k : Nat} {a x : α} (h : x ∈ zs.set k a) : x ∈ zs ∨ x = a := List.mem_or_eq_of_mem_set h
theorem settleF_all (part : Nat → Nat) (hpart : ∀ i, part i ≤ 128) (ps : List PutT) : ∀ i secs, (∀ z ∈ secs, z.length = 128) → (∀ p ∈ ps, inB secs.length p.1 = true ∧ p.2.length = 128) → ∀ z ∈ settleF part i secs ps, z.length = 128 := by
  induction ps with
  | nil => intro i secs h _; exact h
  | cons q ps ih =>
    intro i secs h hp
    rw [settleF]
    have hq := hp q (by simp)
    have hin : q.1.toNat < secs.length := by have := hq.1; simp [inB] at this; omega
    refine ih (i + 1) _ (fun z hz => ?_) (fun p hpm => ?_)
    · rcases mem_set_or hz with hz | rfl
      · exact h z hz
      · exact cutIn_len _ _ _ hq.2 (h _ (getD_mem hin)) (hpart i)
    · rw [List.length_set]; exact hp p (by simp [hpm])

theorem extract_take (s : ByteArray) (k : Nat) : s.extract 0 k = ⟨(s.data.toList.take k).toArray⟩ := by
  apply ByteArray.ext; rw [ByteArray.data_extract]; apply Array.ext'; simp
theorem extract_drop (s : ByteArray) (k : Nat) : s.extract k s.size = ⟨(s.data.toList.drop k).toArray⟩ := by
  apply ByteArray.ext; rw [ByteArray.data_extract]; apply Array.ext'
  have : s.data.toList.length = s.size := Array.length_toList
  rw [Array.toList_extract, List.extract_eq_take_drop, List.take_of_length_le (by rw [List.length_drop]; omega)]
theorem str_app (a b : List UInt8) : (⟨a.toArray⟩ ++ ⟨b.toArray⟩ : ByteArray) = ⟨(a ++ b).toArray⟩ := by
  apply ByteArray.ext; rw [ByteArray.data_append]; simp
theorem cut_str (n : Nat) (p z : List UInt8) (hz : z.length = 128) (hn : n ≤ 128) : (⟨p.toArray⟩ : ByteArray).extract 0 n ++ (⟨z.toArray⟩ : ByteArray).extract n 128 = ⟨(cutIn n p z).toArray⟩ := by
  have h := extract_drop ⟨z.toArray⟩ n
  rw [size_list, hz] at h
  rw [extract_take, h, str_app, cutIn]
theorem gcell {w w' : World} {r : Option Nat} (hg : w.grownBy w' r) (b o : Nat) (hlt : b < w.heap.size) (hne : some b ≠ r) : w'.cell? ⟨b, o, none⟩ = w.cell? ⟨b, o, none⟩ := World.cell?_of_block (w := w) (hg.block b hlt hne)
theorem grown_new {w W : World} {r : Option Nat} (hg : w.grownBy W r) {g : Nat} (h : w.heap.size ≤ g) (o : Nat) (v : Value) : w.grownBy (W.setCell ⟨g, o, none⟩ v) r :=
  ⟨hg.os, hg.tape, hg.output, by rw [size_set]; exact hg.size, fun k hk hn => ((grown_set W g o v).block k (Nat.lt_of_lt_of_le hk hg.size) (by simp; omega)).trans (hg.block k hk hn)⟩
theorem Box.nostr {W : World} {B : Nat} {s c : Value} {f : Int} {o : Bool} (h : Box W B s c f o) (hs : ∃ a n k, s = .slice a n k) (hc : ∃ a n k, c = .slice a n k) (x : Nat) (z : ByteArray) : W.cell? ⟨B, x, none⟩ ≠ some (.string z) := by
  obtain ⟨a, n, k, rfl⟩ := hs
  obtain ⟨a', n', k', rfl⟩ := hc
  unfold Box at h
  have e : W.cell? ⟨B, x, none⟩ = #[Value.slice a n k, .slice a' n' k', .int .i64 f, .bool o][x]? := by
    simp only [World.cell?, h]; exact if_neg (by simp)
  rw [e]
  match x with
  | 0 => simp
  | 1 => simp
  | 2 => simp
  | 3 => simp
  | x + 4 => simp
set_option maxHeartbeats 2000000 in
theorem settle_any (B g : Nat) (lb : Array Value) (eg : ∀ args w, (callFunc g args).run Try.prog w = .ok (.enter g args) w) (part : Nat → Nat) (hpart : ∀ i, part i ≤ 128) (s c : Value) (f : Int) (o : Bool) (secs : List (List UInt8)) (cache : List PutT) (w : World)
    (h : Box w B s c f o) (hs : HasStrs w s secs) (hc : HasPuts w c cache) (hsl : ∀ z ∈ secs, z.length = 128) (hcl : ∀ p ∈ cache, inB secs.length p.1 = true ∧ p.2.length = 128) (h0 : 1 ≤ secs.length) (h1 : secs.length ≤ 1024) (h2 : cache.length ≤ 4096)
    (hp : ∀ (i : Nat), i < cache.length → ∀ W, w.grownBy W (some B) → Calls Try.prog g (#[.int .i64 (i : Int)] ++ lb) W fun e w' => e = .returned (.int .i64 (part i : Int)) ∧ w' = W) :
    Calls Try.prog 26 #[.pointer (some ⟨B, 0, none⟩), .func (.func g) #[] lb] w fun e w' => ∃ s', e = .returned (.tuple #[]) ∧ Box w' B s' (.slice none 0 0) f o ∧ w'.ownsRow w.heap.size 9 1 s' secs.length ((settleF part 0 secs cache).map strV) ∧ w.grownBy w' (some B) := by
  obtain ⟨co, cc, rfl, hc1, hc2⟩ := HasRow.slice hc
  obtain ⟨so, sc, rfl, hs1, hs2⟩ := HasRow.slice hs
  have c1 := fun w' (hb : Below w.heap.size w w') => clone_strs secs _ w' (hs.keep hb) (by omega)
  obtain ⟨q0, q1, q2, q3⟩ := h.cells
  have hfz := h.frozen
  have hBlt := h.lt
  have HC : Hid (∀ j (hj : j < cache.length), ∃ b i, co = some ⟨b, i, none⟩ ∧ b ≠ B ∧ b < w.heap.size ∧ w.cell? ⟨b, i + j * 2, none⟩ = some (.int .i64 cache[j].1) ∧ w.cell? ⟨b, i + j * 2 + 1, none⟩ = some (strV cache[j].2)) := fun j hj => by
    obtain ⟨b, i, e, hb, e1, e2⟩ := HasPuts.cell hc j hj
    refine ⟨b, i, e, fun eb => ?_, hb, e1, e2⟩
    subst eb
    exact h.nostr ⟨_, _, _, rfl⟩ ⟨_, _, _, rfl⟩ _ _ e2
  have HB : Hid (Box w B (.slice so secs.length sc) (.slice co cache.length cc) f o) := h
  have HP : Hid (∀ (i : Nat), i < cache.length → ∀ W, w.grownBy W (some B) → Calls Try.prog g (#[.int .i64 (i : Int)] ++ lb) W fun e w' => e = .returned (.int .i64 (part i : Int)) ∧ w' = W) := hp
  have HSL : Hid (∀ k, ∀ z ∈ settleF part 0 secs (cache.take k), z.length = 128) := fun k => settleF_all part hpart (cache.take k) 0 secs hsl (fun p hpm => hcl p (List.mem_of_mem_take hpm))
  have HCL : Hid (∀ p ∈ cache, inB secs.length p.1 = true ∧ p.2.length = 128) := hcl
  have HSN : Hid (∀ k, (settleF part 0 secs (cache.take k)).length = secs.length) := fun k => settleF_len part _ 0 secs
  have HM : Hid (∀ i, part i ≤ 128) := hpart
  obtain ⟨n, hn⟩ : ∃ n, n = secs.length := ⟨_, rfl⟩
  obtain ⟨m, hm⟩ : ∃ m, m = cache.length := ⟨_, rfl⟩
  have HN : Hid (n = secs.length) := hn
  have HMm : Hid (m = cache.length) := hm
  rw [← hn] at c1 q0 h0 h1 HB HSN HCL hs1 ⊢
  rw [← hm] at q1 h2 HB HP hc1
  clear h hs hc hsl hcl hp hpart hn hm
  go_enter Try.func26, Try.ntmps26
  go_wp2_with fail
  go_at_call 40; refine (c1 _ (Below.refl _ _)).mono ?_; rintro e w1 ⟨u, rfl, hown, hb1⟩
  obtain ⟨g1, cap1, rfl⟩ : ∃ g1 cap1, u = .slice (some ⟨g1, 0, none⟩) n cap1 := by
    obtain ⟨n', rfl⟩ : ∃ n', n = n' + 1 := ⟨n - 1, by omega⟩
    exact ownsRow_succ hown
  have hg1 := (hown.lt g1 rfl).1
  have HB1 : Hid (Box w1 B (.slice so n sc) (.slice co m cc) f o) := HB.out.below hb1
  have hf1 := HB1.out.frozen
  obtain ⟨p0, p1, p2, p3⟩ := HB1.out.cells
  obtain ⟨W1, hW1⟩ : ∃ W1, W1 = w1.setCell ⟨B, 0, none⟩ (.slice (some ⟨g1, 0, none⟩) n cap1) := ⟨_, rfl⟩
  have HB2 : Hid (Box W1 B (.slice (some ⟨g1, 0, none⟩) n cap1) (.slice co m cc) f o) := by rw [hW1]; exact (HB1.out.set).1 _
  have hown1 : W1.ownsRow w.heap.size 9 1 (.slice (some ⟨g1, 0, none⟩) n cap1) n (secs.map strV) := by rw [hW1]; exact hown.kept (grown_set _ _ _ _) (.inr (by simp [Value.ownBlock]; omega))
  have hgr1 : w.grownBy W1 (some B) := by rw [hW1]; exact grown2 (grown_any (grown_of hb1) _) (grown_set _ _ _ _)
  have p4 := (HB2.out.cells).2.1
  rw [hW1] at p4
  go_wp2_with fail
  rw [← hW1]
  clear p4 hW1 hown
  go_loopw [23] (fun i wr => ∃ k : Nat, k ≤ m ∧ i = .int .i64 k ∧ Box wr B (.slice (some ⟨g1, 0, none⟩) n cap1) (.slice co m cc) f o ∧ wr.ownsRow w.heap.size 9 1 (.slice (some ⟨g1, 0, none⟩) n cap1) n ((settleF part 0 secs (cache.take k)).map strV) ∧ w.grownBy wr (some B)) (fun i _ => m - (intOf i).toNat)
  case atStart => exact ⟨0, by omega, rfl, HB2.out, hown1, hgr1⟩
  case round =>
    obtain ⟨k, hk, rfl, hbox, ho, hg⟩ := hrel
    by_cases hlt : k < m
    · have hkz : k < cache.length := by rw [← HMm.out]; exact hlt
      obtain ⟨b, i, rfl, hbB, hb, e1, e2⟩ := HC.out k hkz
      have d1 := (gcell hg b (i + k * 2) hb (by simp; exact hbB)).trans e1
      have d2 := (gcell hg b (i + k * 2 + 1) hb (by simp; exact hbB)).trans e2
      have HT : Hid (settleF part 0 secs (cache.take (k + 1)) = (settleF part 0 secs (cache.take k)).set cache[k].1.toNat (cutIn (part k) cache[k].2 ((settleF part 0 secs (cache.take k)).getD cache[k].1.toNat []))) := by
        show _ = _
        rw [List.take_succ_eq_append_getElem hkz, settleF_snoc]
        simp only [List.length_take, Nat.zero_add, Nat.min_eq_left (by omega : k ≤ cache.length)]
      have hin := HCL.out cache[k] (List.getElem_mem hkz)
      generalize cache[k] = p at d1 d2 HT hin
      clear e1 e2
      obtain ⟨pa, pd⟩ := p
      obtain ⟨hin, hpd⟩ := hin
      simp only [inB, decide_eq_true_eq] at hin
      obtain ⟨at', rfl⟩ := Int.eq_ofNat_of_zero_le hin.1
      have hat : at' < n := by omega
      simp only at d1 d2 HT hpd
      rw [Int.toNat_natCast] at HT
      have hlen := HSN.out k
      have hz := HSL.out k _ (getD_mem (zs := settleF part 0 secs (cache.take k)) (k := at') (by rw [hlen]; exact hat))
      obtain ⟨S, hS⟩ : ∃ S, S = settleF part 0 secs (cache.take k) := ⟨_, rfl⟩
      rw [← hS] at ho HT hlen hz
      have HSk : Hid (S = settleF part 0 secs (cache.take k)) := hS
      clear hS
      obtain ⟨z, hzz⟩ : ∃ z, z = S.getD at' [] := ⟨_, rfl⟩
      rw [← hzz] at HT hz
      have hcz : wr.cell? ⟨g1, at', none⟩ = some (strV z) := by
        rw [ho.cellAt at' (by omega), List.getElem?_map, hzz, List.getD_eq_getElem?_getD, List.getElem?_eq_getElem (by omega)]; rfl
      have hfr := ho.frozenAt at'
      clear hzz
      have c2 := HP.out k hlt
      have hpk := HM.out k
      obtain ⟨pk, hpk'⟩ : ∃ pk, pk = part k := ⟨_, rfl⟩
      rw [← hpk'] at HT c2 hpk
      clear hpk'
      unfold strV at d2 hcz
      have HCUT : Hid ((⟨pd.toArray⟩ : ByteArray).extract 0 pk ++ (⟨z.toArray⟩ : ByteArray).extract pk 128 = ⟨(cutIn pk pd z).toArray⟩) := cut_str pk pd z hz hpk
      have hPs : (⟨pd.toArray⟩ : ByteArray).size = 128 := by rw [size_list]; exact hpd
      have hZs : (⟨z.toArray⟩ : ByteArray).size = 128 := by rw [size_list]; exact hz
      generalize (⟨pd.toArray⟩ : ByteArray) = PD at d2 HCUT hPs
      generalize (⟨z.toArray⟩ : ByteArray) = Z at hcz HCUT hZs
      clear hz hpd
      have hgW : w.grownBy (wr.alloc (.cells #[.int .i64 (at' : Int), .string PD] 76)) (some B) := grown2 hg (World.grownBy_alloc wr _ _)
      have hboxW := hbox.kept (World.grownBy_alloc wr (.cells #[.int .i64 (at' : Int), .string PD] 76) none) (by simp)
      have hoW := ho.alloc (.cells #[.int .i64 (at' : Int), .string PD] 76)
      have x1 : (wr.alloc (.cells #[.int .i64 (at' : Int), .string PD] 76)).cell? ⟨wr.heap.size, 0, none⟩ = some (.int .i64 (at' : Int)) := by
        simp only [World.cell?, heap_alloc_new]; exact if_neg (by simp)
      have x2 : (wr.alloc (.cells #[.int .i64 (at' : Int), .string PD] 76)).cell? ⟨wr.heap.size, 1, none⟩ = some (.string PD) := by
        simp only [World.cell?, heap_alloc_new]; exact if_neg (by simp)
      have hgl := (ho.lt g1 rfl).2
      have x3 : (wr.alloc (.cells #[.int .i64 (at' : Int), .string PD] 76)).cell? ⟨g1, at', none⟩ = some (.string Z) := by
        rw [← hcz]; exact ((Below.refl _ wr).alloc (Nat.le_refl _) _).cell (p := ⟨g1, at', none⟩) hgl
      have x4 := hoW.frozenAt at'
      go_wp2_with fail
      refine (c2 _ hgW).mono ?_
      rintro e w2 ⟨rfl, rfl⟩
      go_wp2_with fail
      obtain ⟨W2, hW2⟩ : ∃ W2, W2 = wr.alloc (.cells #[.int .i64 (at' : Int), .string PD] 76) := ⟨_, rfl⟩
      rw [← hW2] at hgW hboxW hoW x1 x2 x3 x4 ⊢
      obtain ⟨y0, _⟩ := hboxW.cells
      clear hcz hfr hbox ho hg hW2 d1 d2
      go_region
      go_wp2
      go_roundw
      case rel =>
        refine ⟨k + 1, by omega, by go_num, ?_, ?_, ?_⟩
        · have := hboxW.kept (grown_set W2 g1 at' (.string (PD.extract 0 pk ++ Z.extract pk 128))) (by simp; omega)
          exact this.kept (grown_drew _ none) (by simp)
        · have := ((hoW.stored at' (.string (PD.extract 0 pk ++ Z.extract pk 128))).1).drew
          rw [HCUT.out] at this
          rw [HT.out, HCUT.out, List.map_set]
          exact this
        · exact grown2 (grown_new hgW hg1 _ _) (grown_drew _ _)
      case measure => simp [intOf]; omega
    · obtain rfl : k = m := by omega
      have hfz2 := hbox.frozen
      obtain ⟨z0, z1, z2, z3⟩ := hbox.cells
      go_wp2
      go_end0
      exact ⟨_, rfl, (hbox.set).2.1 _, by have := ho.kept (grown_set wr B 1 (.slice none 0 0)) (.inr (by simp [Value.ownBlock]; omega)); rw [HMm.out, List.take_length] at this; exact this, grown2 hg (grown_set _ _ _ _)⟩
end Go.Proofs.Ytoigogjklhahkaa.Disk
