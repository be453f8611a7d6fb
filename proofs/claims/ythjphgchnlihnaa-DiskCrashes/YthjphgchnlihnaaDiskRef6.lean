/- What the document's Crash of disks returns. -/
import Derived.Test.YthjphgchnlihnaaDiskRef5
set_option linter.unusedVariables false
namespace Go.Proofs.Ythjphgchnlihnaa.Disk
open Go.RowKit Go.Shelf

/-- the disk in its variable while a crash settles it -/
structure Own4 (w Y : World) (d : Dk) (g1 : Nat) (co : Option Addr) (n m sc cc : Nat) (f : Int) (o : Bool) (S : List (List UInt8)) : Prop where
  box : VBox Y w.heap.size (.slice (some ⟨g1, 0, none⟩) n sc) (.slice co m cc) (.int .i64 f) (.bool o)
  res : RBox Y (w.heap.size + 1)
  secs : Y.ownsRow (w.heap.size + 2) 9 1 (.slice (some ⟨g1, 0, none⟩) n sc) n (S.map strV)
  puts : Y.ownsRow (w.heap.size + 2) 52 2 (.slice co m cc) m (putCs d.cache)
  below : Below w.heap.size w Y
theorem Own4.alloc {w Y : World} {d : Dk} {g1 : Nat} {co : Option Addr} {n m sc cc : Nat} {f : Int} {o : Bool} {S : List (List UInt8)} (h : Own4 w Y d g1 co n m sc cc f o S) (x : Obj) : Own4 w (Y.alloc x) d g1 co n m sc cc f o S :=
  have hb : Below Y.heap.size Y (Y.alloc x) := (Below.refl _ _).alloc (Nat.le_refl _) _
  ⟨h.box.below hb, h.res.below hb, h.secs.alloc x, h.puts.alloc x, below2 h.below hb⟩
theorem Own4.drew {w Y : World} {d : Dk} {g1 : Nat} {co : Option Addr} {n m sc cc : Nat} {f : Int} {o : Bool} {S : List (List UInt8)} (h : Own4 w Y d g1 co n m sc cc f o S) : Own4 w Y.drew d g1 co n m sc cc f o S :=
  have hb : Below Y.heap.size Y Y.drew := (Below.refl _ _).drew
  ⟨h.box.below hb, h.res.below hb, h.secs.drew, h.puts.drew, below2 h.below hb⟩
theorem Own4.put {w Y : World} {d : Dk} {g1 : Nat} {co : Option Addr} {n m sc cc : Nat} {f : Int} {o : Bool} {S : List (List UInt8)} (h : Own4 w Y d g1 co n m sc cc f o S) (k : Nat) (z : List UInt8) : Own4 w (Y.setCell ⟨g1, k, none⟩ (strV z)) d g1 co n m sc cc f o (S.set k z) := by
  have hg := (h.secs.lt g1 rfl).1
  refine ⟨h.box.kept (grown_set _ _ _ _) (by simp; omega), h.res.kept (grown_set _ _ _ _) (by simp; omega), ?_, h.puts.kept (grown_set _ _ _ _) ?_, h.below.setCell (p := ⟨g1, k, none⟩) (by simp; omega) _⟩
  · have := (h.secs.stored k (strV z)).1
    rw [List.map_set]; exact this
  · have := own_apart h.puts h.secs (by decide)
    simpa [Value.ownBlock] using this
theorem Own4.fin {w Y : World} {d : Dk} {g1 : Nat} {co : Option Addr} {n m sc cc : Nat} {f : Int} {o : Bool} {S : List (List UInt8)} {q : Dk × Int} (h : Own4 w Y d g1 co n m sc cc f o S) (hn : S.length = n) (hq : q = (⟨S, [], -1, false⟩, 0)) :
    DiskIs q w (.returned (.tuple #[.agg #[.slice (some ⟨g1, 0, none⟩) n sc, .slice none 0 0, .int .i64 (-1), .bool false], .int .i64 0]))
      ((((Y.setCell ⟨w.heap.size + 1, 0, none⟩ (.slice (some ⟨g1, 0, none⟩) n sc)).setCell ⟨w.heap.size + 1, 1, none⟩ (.slice none 0 0)).setCell ⟨w.heap.size + 1, 2, none⟩ (.int .i64 (-1))).setCell ⟨w.heap.size + 1, 3, none⟩ (.bool false)) := by
  subst hq
  subst hn
  have hs : HasStrs Y (.slice (some ⟨g1, 0, none⟩) S.length sc) S := hasRow_own h.secs
  exact ⟨_, rfl, ⟨_, _, rfl, hs.box h.res.nostr (set4_grown _ _ _ _ _ _), hasRow_nil _ _⟩, set4_below h.below (by omega) _ _ _ _⟩
theorem cutIn_zero {p z : List UInt8} : cutIn 0 p z = z := by simp [cutIn]
theorem set_getD {S : List (List UInt8)} {k : Nat} (h : k < S.length) : S.set k (S.getD k []) = S := by
  rw [List.getD_eq_getElem?_getD, List.getElem?_eq_getElem h]
  simp
theorem keep_cell {W : World} {ko : Option Addr} {n c : Nat} {keep : List Bool} (h : HasRow W (.slice ko n c) 1 keep.length (keep.map Value.bool)) : n = keep.length ∧ ∀ j, j < n → ∃ b i, ko = some ⟨b, i, none⟩ ∧ b < W.heap.size ∧ W.cell? ⟨b, i + j, none⟩ = some (.bool (keep.getD j false)) := by
  rcases h.2 with ⟨e, h0⟩ | ⟨a, cap, e, _, _, hs, hc⟩
  · injection e with e1 e2 e3
    exact ⟨by omega, fun j hj => by omega⟩
  · injection e with e1 e2 e3
    subst e1
    refine ⟨e2, fun j hj => ?_⟩
    obtain ⟨b, i, sp⟩ := a
    obtain ⟨h1, h2⟩ := hs (by omega)
    simp only at h1 h2
    subst h1
    refine ⟨b, i, rfl, h2, ?_⟩
    have := hc j (by omega)
    rw [addr_add] at this
    rw [this, List.getElem?_map, List.getElem?_eq_getElem (by omega), List.getD_eq_getElem?_getD, List.getElem?_eq_getElem (by omega)]
    rfl
set_option maxHeartbeats 8000000 in
theorem rcrash_any (d : Dk) (v kv : Value) (keep : List Bool) (torn bytes : Int) (w : World) (h : HasDk w v d) (hf : Fits d) (hk : HasRow w kv 1 keep.length (keep.map Value.bool)) (ht : -9223372036854775808 ≤ torn ∧ torn ≤ 9223372036854775807) (hbt : -9223372036854775808 ≤ bytes ∧ bytes ≤ 9223372036854775807) :
    Calls Try.prog 18 #[v, kv, .int .i64 torn, .int .i64 bytes] w (DiskIs (outD d (crashD d keep torn bytes)) w) := by
  have cchk := fun W (hb : Below w.heap.size w W) => rcheck_any d v W (h.keep hb) hf
  obtain ⟨so, sc, co, cc, rfl, hs, hc⟩ := h.parts
  obtain ⟨_, _, _, hs1, hs2⟩ := HasRow.slice hs
  obtain ⟨_, _, _, hc1, hc2⟩ := HasRow.slice hc
  obtain ⟨ko, kc, rfl, _, _⟩ := HasRow.slice hk
  by_cases hok : okB d = true
  · have HK : Hid (Ok d) := ok_of hok
    obtain ⟨X, hX, hB0, cin⟩ := copied_in d so co sc cc w hs hc HK.out
    have HR : Hid (outD d (crashD d keep torn bytes) = (⟨settleF (partN keep torn bytes) 0 d.secs d.cache, [], -1, false⟩, 0)) := by show _ = _; rw [outD, if_pos hok]; rfl
    rw [checkE_ok hok] at cchk
    have HKC : Hid (∀ j, j < keep.length → ∃ b i, ko = some ⟨b, i, none⟩ ∧ b < w.heap.size ∧ w.cell? ⟨b, i + j, none⟩ = some (.bool (keep.getD j false))) := (keep_cell hk).2
    have hkl : keep.length ≤ 9223372036854775807 := by
      rcases hk.2 with ⟨e, h0⟩ | ⟨a, cap, e, h1, h2, _⟩ <;> omega
    have HP : Hid (∀ i, partN keep torn bytes i = if (i : Int) = torn then (min (max bytes 0) 128).toNat else if keep.getD i false then 128 else 0) := fun i => rfl
    obtain ⟨part, hpart⟩ : ∃ part, part = partN keep torn bytes := ⟨_, rfl⟩
    have HPL : Hid (∀ i, part i ≤ 128) := by rw [hpart]; exact partN_le keep torn bytes
    rw [← hpart] at HR HP
    clear hpart
    obtain ⟨kn, hkn⟩ : ∃ kn, kn = keep.length := ⟨_, rfl⟩
    rw [← hkn] at HKC hkl ⊢
    have HKN : Hid (∀ j, ¬ j < kn → keep.getD j false = false) := fun j hj => by rw [List.getD_eq_getElem?_getD, List.getElem?_eq_none (by omega)]; rfl
    obtain ⟨kp, hkp⟩ : ∃ kp : Nat → Bool, kp = fun j => keep.getD j false := ⟨_, rfl⟩
    have hkp2 : ∀ j, keep.getD j false = kp j := fun j => by rw [hkp]
    simp only [hkp2] at HKC HKN HP
    generalize outD d (crashD d keep torn bytes) = RR at HR ⊢
    clear hok hs hc h hf hk hkp2 hkp hkn
    go_enter Try.func18, Try.ntmps18
    go_wp2_with fail
    rw [← hX]
    go_at_call 16; refine (cchk X hB0).mono ?_; rintro e w1 ⟨rfl, hb⟩
    obtain ⟨vb, rb, hbw, ccp⟩ := cin w1 hb
    obtain ⟨k0, k1, k2, k3, kf⟩ := vb.cells
    clear hX cin cchk
    go_wp2_with fail
    go_at_call 6; refine ccp.mono ?_; rintro e w2 ⟨so2, sc2, co2, cc2, rfl, v2, own⟩
    clear k0 k1 k2 k3 kf ccp vb rb
    obtain ⟨k0, k1, k2, k3, kf⟩ := v2.cells
    go_upto_region 4 with fail
    obtain ⟨Y, hY⟩ : ∃ Y, Y = ((((w2.setCell ⟨w.heap.size, 0, none⟩ (.slice so2 d.secs.length sc2)).setCell ⟨w.heap.size, 1, none⟩ (.slice co2 d.cache.length cc2)).setCell ⟨w.heap.size, 2, none⟩ (.int .i64 d.fuse)).setCell ⟨w.heap.size, 3, none⟩ (.bool d.off)) := ⟨_, rfl⟩
    rw [← hY] at own ⊢
    clear hY k0 k1 k2 k3 kf v2 hb hB0 hbw
    obtain ⟨g1, rfl⟩ : ∃ g1, so2 = some ⟨g1, 0, none⟩ := by
      have h1 := HK.out.one
      rcases own.secs.2 with ⟨e, e'⟩ | ⟨g, cap, cur, e, _⟩
      · omega
      · injection e with e; exact ⟨g, e⟩
    obtain ⟨n, hn⟩ : ∃ n, n = d.secs.length := ⟨_, rfl⟩
    obtain ⟨m, hm⟩ : ∃ m, m = d.cache.length := ⟨_, rfl⟩
    have HN : Hid (n = d.secs.length) := hn
    have HM : Hid (m = d.cache.length) := hm
    have hn2 : n ≤ 1024 := by rw [hn]; exact HK.out.many
    have hm2 : m ≤ 4096 := by rw [hm]; exact HK.out.few
    have HO9 : Hid (Own4 w Y d g1 co2 n m sc2 cc2 d.fuse d.off (settleF part 0 d.secs (d.cache.take 0))) := by rw [hn, hm]; exact ⟨own.box, own.res, own.secs, own.puts, own.below⟩
    clear own hn hm
    generalize d.fuse = fu at HO9 ⊢
    generalize d.off = of at HO9 ⊢
    obtain ⟨k0, k1, k2, k3, kf⟩ := HO9.out.box.cells
    have hcase : bytes < 0 ∨ (0 ≤ bytes ∧ bytes ≤ 128) ∨ 128 < bytes := by omega
    rcases hcase with hc0 | hc0 | hc0
    · have HNB : Hid ((min (max bytes 0) 128).toNat = 0) := by show _ = _; omega
      have hNB : 0 ≤ 128 := by omega
      have hd1 : decide (bytes < 0) = true := by simpa using hc0
      go_upto_region 9 with fail
      go_wp2_with fail
      go_loopw [27] (fun i wr => ∃ k : Nat, k ≤ m ∧ i = .int .i64 k ∧ Own4 w wr d g1 co2 n m sc2 cc2 fu of (settleF part 0 d.secs (d.cache.take k))) (fun i _ => m - (intOf i).toNat)
      case atStart => exact ⟨0, by omega, rfl, HO9.out⟩
      case round =>
        obtain ⟨k, hk, rfl, hO⟩ := hrel
        clear HO9 k0 k1 k2 k3 kf
        by_cases hlt : k < m
        · have hkz : k < d.cache.length := by rw [← HM.out]; exact hlt
          have hpc : HasPuts wr (.slice co2 m cc2) d.cache := by unfold HasPuts; rw [← HM.out]; exact hasRow_own hO.puts
          obtain ⟨g2, i2, rfl, _, d1, d2⟩ := HasPuts.cell hpc k hkz
          clear hpc
          have HT : Hid (settleF part 0 d.secs (d.cache.take (k + 1)) = (settleF part 0 d.secs (d.cache.take k)).set d.cache[k].1.toNat (cutIn (part k) d.cache[k].2 ((settleF part 0 d.secs (d.cache.take k)).getD d.cache[k].1.toNat []))) := by
            show _ = _
            rw [List.take_succ_eq_append_getElem hkz, settleF_snoc]
            simp only [List.length_take, Nat.zero_add, Nat.min_eq_left (by omega : k ≤ d.cache.length)]
          have hin := HK.out.puts d.cache[k] (List.getElem_mem hkz)
          generalize d.cache[k] = p at d1 d2 HT hin
          obtain ⟨pa, pd⟩ := p
          obtain ⟨hin, hpd⟩ := hin
          simp only [inB, decide_eq_true_eq] at hin
          obtain ⟨at', rfl⟩ := Int.eq_ofNat_of_zero_le hin.1
          have hat : at' < n := by have := HN.out; omega
          simp only at d1 d2 HT hpd
          rw [Int.toNat_natCast] at HT
          have hlen : (settleF part 0 d.secs (d.cache.take k)).length = n := by rw [settleF_len]; exact HN.out.symm
          have hz := settleF_all part HPL.out (d.cache.take k) 0 d.secs HK.out.whole (fun p hpm => HK.out.puts p (List.mem_of_mem_take hpm)) _ (getD_mem (zs := settleF part 0 d.secs (d.cache.take k)) (k := at') (by rw [hlen]; exact hat))
          obtain ⟨S, hS⟩ : ∃ S, S = settleF part 0 d.secs (d.cache.take k) := ⟨_, rfl⟩
          rw [← hS] at hO HT hlen hz
          clear hS hin
          have hcz : wr.cell? ⟨g1, at', none⟩ = some (strV (S.getD at' [])) := by
            rw [hO.secs.cellAt at' (by omega), List.getElem?_map, List.getD_eq_getElem?_getD, List.getElem?_eq_getElem (by omega)]; rfl
          obtain ⟨Wa, hWa⟩ : ∃ Wa, Wa = wr.alloc (.cells #[.int .i64 (at' : Int), strV pd] 52) := ⟨_, rfl⟩
          have hP : Own4 w Wa d g1 (some ⟨g2, i2, none⟩) n m sc2 cc2 fu of S := by rw [hWa]; exact hO.alloc _
          have x1 : Wa.cell? ⟨wr.heap.size, 0, none⟩ = some (.int .i64 (at' : Int)) := by
            rw [hWa]; simp only [World.cell?, heap_alloc_new]; exact if_neg (by simp)
          have x2 : Wa.cell? ⟨wr.heap.size, 1, none⟩ = some (strV pd) := by
            rw [hWa]; simp only [World.cell?, heap_alloc_new]; exact if_neg (by simp)
          have x3 : Wa.cell? ⟨g1, at', none⟩ = some (strV (S.getD at' [])) := by
            rw [← hcz, hWa]; exact ((Below.refl _ wr).alloc (Nat.le_refl _) _).cell (p := ⟨g1, at', none⟩) (hO.secs.lt g1 rfl).2
          have x4 := hP.secs.frozenAt at'
          have hbl : Below w.heap.size w Wa := hP.below
          obtain ⟨y0, _⟩ := hP.box.cells
          have hati : (at' : Int) < (n : Int) := by omega
          have HPk : Hid (part k = if (k : Int) = torn then (min (max bytes 0) 128).toNat else if kp k then 128 else 0) := HP.out k
          have HPO : Hid (Own4 w Wa d g1 (some ⟨g2, i2, none⟩) n m sc2 cc2 fu of S) := hP
          have HZ : Hid ((S.getD at' []).length = 128 ∧ pd.length = 128 ∧ S.length = n) := ⟨hz, hpd, hlen⟩
          clear hP hO hlen hpd hcz hz
          by_cases htn : (k : Int) = torn
          · have HPUT : Hid (∀ Z, Z = cutIn 0 pd (S.getD at' []) → Own4 w (Wa.drew.setCell ⟨g1, at', none⟩ (strV Z)) d g1 (some ⟨g2, i2, none⟩) n m sc2 cc2 fu of (settleF part 0 d.secs (d.cache.take (k + 1)))) := by
              intro Z hZ
              rw [HT.out, HPk.out, if_pos htn, HNB.out, ← hZ]; exact HPO.out.drew.put at' Z
            subst htn
            have hZS : (⟨(S.getD at' []).toArray⟩ : ByteArray).size = 128 := by rw [size_list]; exact HZ.out.1
            have hPS : (⟨pd.toArray⟩ : ByteArray).size = 128 := by rw [size_list]; exact HZ.out.2.1
            have hcat : (⟨pd.toArray⟩ : ByteArray).extract 0 0 ++ (⟨(S.getD at' []).toArray⟩ : ByteArray).extract 0 128 = ⟨(cutIn 0 pd (S.getD at' [])).toArray⟩ := by
              have h1 := extract_take ⟨pd.toArray⟩ 0
              have h2 := extract_drop ⟨(S.getD at' []).toArray⟩ 0
              rw [hZS] at h2
              rw [h1, h2, str_app]; rfl
            unfold strV at d2 x2 x3 HPUT hWa
            obtain ⟨CC, hCC⟩ : ∃ CC, CC = cutIn 0 pd (S.getD at' []) := ⟨_, rfl⟩
            have HP2 := HPUT.out CC hCC
            rw [← hCC] at hcat
            have HP3 : Hid (Own4 w (Wa.drew.setCell ⟨g1, at', none⟩ (.string ⟨CC.toArray⟩)) d g1 (some ⟨g2, i2, none⟩) n m sc2 cc2 fu of (settleF part 0 d.secs (d.cache.take (k + 1)))) := HP2
            have HC2 : Hid ((⟨(S.getD at' []).toArray⟩ : ByteArray).extract 0 128 = ⟨CC.toArray⟩) := by show _ = _; rw [← hcat]; simp
            have hz1 : ((⟨pd.toArray⟩ : ByteArray).extract 0 0).size ≤ 128 := by rw [ByteArray.size_extract]; omega
            have hz2 : ((⟨(S.getD at' []).toArray⟩ : ByteArray).extract 0 128).size ≤ 128 := by rw [ByteArray.size_extract]; omega
            have n1 : ¬ 9223372036854775807 < ((⟨pd.toArray⟩ : ByteArray).extract 0 0).size + ((⟨(S.getD at' []).toArray⟩ : ByteArray).extract 0 128).size := by omega
            clear hCC HPUT HP2 HT
            generalize (⟨pd.toArray⟩ : ByteArray) = PD at *
            generalize (⟨(S.getD at' []).toArray⟩ : ByteArray) = Z at *
            generalize (⟨CC.toArray⟩ : ByteArray) = CS at *
            go_upto_region 12 with fail
            rw [← hWa]
            clear hWa
            go_wp2_with fail
            go_region
            all_goals go_wp2
            all_goals go_roundw
            all_goals first
              | exact ⟨k + 1, by omega, by go_num, HP3.out⟩
              | exact ⟨k + 1, by omega, by go_num, HC2.out ▸ HP3.out⟩
              | (rw [HC2.out]; exact ⟨k + 1, by omega, by go_num, HP3.out⟩)
              | (simp [intOf]; omega)
          · have htn2 : ((k : Int) == torn) = false := by simpa using htn
            by_cases hkk : k < kn
            · obtain ⟨kb, ki, rfl, hkb, hkc⟩ := HKC.out k hkk
              have hkc2 := (hbl.cell (p := ⟨kb, ki + k, none⟩) hkb).trans hkc
              have hkd : decide ((k : Int) < (kn : Int)) = true := by rw [decide_eq_true_iff]; omega
              have hki : (k : Int) < (kn : Int) := by omega
              by_cases hkv : kp k = true
              · have HPUT : Hid (Own4 w (Wa.setCell ⟨g1, at', none⟩ (strV pd)) d g1 (some ⟨g2, i2, none⟩) n m sc2 cc2 fu of (settleF part 0 d.secs (d.cache.take (k + 1)))) := by
                  show Own4 _ _ _ _ _ _ _ _ _ _ _ _
                  rw [HT.out, HPk.out, if_neg htn, if_pos hkv, cutIn_full HZ.out.2.1 HZ.out.1]; exact HPO.out.put at' pd
                rw [hkv] at hkc2
                unfold strV at d2 x2 x3 HPUT hWa
                clear HT hkc
                generalize (⟨pd.toArray⟩ : ByteArray) = PD at *
                generalize (⟨(S.getD at' []).toArray⟩ : ByteArray) = Z at *
                go_upto_region 12 with fail
                rw [← hWa]
                clear hWa
                go_wp2
                go_roundw
                case rel => exact ⟨k + 1, by omega, by go_num, HPUT.out⟩
                case measure => simp [intOf]; omega
              · have hkv2 : kp k = false := by simpa using hkv
                have HPUT : Hid (Own4 w Wa d g1 (some ⟨g2, i2, none⟩) n m sc2 cc2 fu of (settleF part 0 d.secs (d.cache.take (k + 1)))) := by
                  show Own4 _ _ _ _ _ _ _ _ _ _ _ _
                  rw [HT.out, HPk.out, if_neg htn, if_neg hkv, cutIn_zero, set_getD (by rw [HZ.out.2.2]; exact hat)]; exact HPO.out
                rw [hkv2] at hkc2
                unfold strV at d2 x2 x3 hWa
                clear HT hkc
                generalize (⟨pd.toArray⟩ : ByteArray) = PD at *
                generalize (⟨(S.getD at' []).toArray⟩ : ByteArray) = Z at *
                go_upto_region 12 with fail
                rw [← hWa]
                clear hWa
                go_wp2
                go_roundw
                case rel => exact ⟨k + 1, by omega, by go_num, HPUT.out⟩
                case measure => simp [intOf]; omega
            · have hkv2 : kp k = false := HKN.out k hkk
              have hkd : decide ((k : Int) < (kn : Int)) = false := by rw [decide_eq_false_iff_not]; omega
              have HPUT : Hid (Own4 w Wa d g1 (some ⟨g2, i2, none⟩) n m sc2 cc2 fu of (settleF part 0 d.secs (d.cache.take (k + 1)))) := by
                show Own4 _ _ _ _ _ _ _ _ _ _ _ _
                rw [HT.out, HPk.out, if_neg htn, hkv2, if_neg (by simp), cutIn_zero, set_getD (by rw [HZ.out.2.2]; exact hat)]; exact HPO.out
              unfold strV at d2 x2 x3 hWa
              clear HT
              generalize (⟨pd.toArray⟩ : ByteArray) = PD at *
              generalize (⟨(S.getD at' []).toArray⟩ : ByteArray) = Z at *
              go_upto_region 12 with fail
              rw [← hWa]
              clear hWa
              go_wp2
              go_roundw
              case rel => exact ⟨k + 1, by omega, by go_num, HPUT.out⟩
              case measure => simp [intOf]; omega
        · obtain rfl : k = m := by omega
          rw [HM.out, List.take_length] at hO
          have hlen : (settleF part 0 d.secs d.cache).length = n := by rw [settleF_len]; exact HN.out.symm
          rw [← HM.out] at hO
          have HD := hO.fin hlen HR.out
          obtain ⟨k0, k1, k2, k3, kf⟩ := hO.box.cells
          obtain ⟨q0, q1, q2, q3, qf⟩ := hO.res.cells
          clear hO hlen
          go_wp2
          (try simp only [Exit.inBlock, Exit.then])
          refine bodyPost_ret ?_ rfl HD
          rw [results_cell_tmp rfl]
          go_simp
    · have HNB : Hid ((min (max bytes 0) 128).toNat = bytes.toNat) := by show _ = _; omega
      have hNB : bytes.toNat ≤ 128 := by omega
      have hd1 : decide (bytes < 0) = false := by rw [decide_eq_false_iff_not]; omega
      have hd2 : decide (128 < bytes) = false := by rw [decide_eq_false_iff_not]; omega
      have hbn : (0 : Int) ≤ bytes := hc0.1
      have hbm : bytes ≤ 128 := hc0.2
      go_upto_region 9 with fail
      go_wp2_with fail
      go_loopw [27] (fun i wr => ∃ k : Nat, k ≤ m ∧ i = .int .i64 k ∧ Own4 w wr d g1 co2 n m sc2 cc2 fu of (settleF part 0 d.secs (d.cache.take k))) (fun i _ => m - (intOf i).toNat)
      case atStart => exact ⟨0, by omega, rfl, HO9.out⟩
      case round =>
        obtain ⟨k, hk, rfl, hO⟩ := hrel
        clear HO9 k0 k1 k2 k3 kf
        by_cases hlt : k < m
        · have hkz : k < d.cache.length := by rw [← HM.out]; exact hlt
          have hpc : HasPuts wr (.slice co2 m cc2) d.cache := by unfold HasPuts; rw [← HM.out]; exact hasRow_own hO.puts
          obtain ⟨g2, i2, rfl, _, d1, d2⟩ := HasPuts.cell hpc k hkz
          clear hpc
          have HT : Hid (settleF part 0 d.secs (d.cache.take (k + 1)) = (settleF part 0 d.secs (d.cache.take k)).set d.cache[k].1.toNat (cutIn (part k) d.cache[k].2 ((settleF part 0 d.secs (d.cache.take k)).getD d.cache[k].1.toNat []))) := by
            show _ = _
            rw [List.take_succ_eq_append_getElem hkz, settleF_snoc]
            simp only [List.length_take, Nat.zero_add, Nat.min_eq_left (by omega : k ≤ d.cache.length)]
          have hin := HK.out.puts d.cache[k] (List.getElem_mem hkz)
          generalize d.cache[k] = p at d1 d2 HT hin
          obtain ⟨pa, pd⟩ := p
          obtain ⟨hin, hpd⟩ := hin
          simp only [inB, decide_eq_true_eq] at hin
          obtain ⟨at', rfl⟩ := Int.eq_ofNat_of_zero_le hin.1
          have hat : at' < n := by have := HN.out; omega
          simp only at d1 d2 HT hpd
          rw [Int.toNat_natCast] at HT
          have hlen : (settleF part 0 d.secs (d.cache.take k)).length = n := by rw [settleF_len]; exact HN.out.symm
          have hz := settleF_all part HPL.out (d.cache.take k) 0 d.secs HK.out.whole (fun p hpm => HK.out.puts p (List.mem_of_mem_take hpm)) _ (getD_mem (zs := settleF part 0 d.secs (d.cache.take k)) (k := at') (by rw [hlen]; exact hat))
          obtain ⟨S, hS⟩ : ∃ S, S = settleF part 0 d.secs (d.cache.take k) := ⟨_, rfl⟩
          rw [← hS] at hO HT hlen hz
          clear hS hin
          have hcz : wr.cell? ⟨g1, at', none⟩ = some (strV (S.getD at' [])) := by
            rw [hO.secs.cellAt at' (by omega), List.getElem?_map, List.getD_eq_getElem?_getD, List.getElem?_eq_getElem (by omega)]; rfl
          obtain ⟨Wa, hWa⟩ : ∃ Wa, Wa = wr.alloc (.cells #[.int .i64 (at' : Int), strV pd] 52) := ⟨_, rfl⟩
          have hP : Own4 w Wa d g1 (some ⟨g2, i2, none⟩) n m sc2 cc2 fu of S := by rw [hWa]; exact hO.alloc _
          have x1 : Wa.cell? ⟨wr.heap.size, 0, none⟩ = some (.int .i64 (at' : Int)) := by
            rw [hWa]; simp only [World.cell?, heap_alloc_new]; exact if_neg (by simp)
          have x2 : Wa.cell? ⟨wr.heap.size, 1, none⟩ = some (strV pd) := by
            rw [hWa]; simp only [World.cell?, heap_alloc_new]; exact if_neg (by simp)
          have x3 : Wa.cell? ⟨g1, at', none⟩ = some (strV (S.getD at' [])) := by
            rw [← hcz, hWa]; exact ((Below.refl _ wr).alloc (Nat.le_refl _) _).cell (p := ⟨g1, at', none⟩) (hO.secs.lt g1 rfl).2
          have x4 := hP.secs.frozenAt at'
          have hbl : Below w.heap.size w Wa := hP.below
          obtain ⟨y0, _⟩ := hP.box.cells
          have hati : (at' : Int) < (n : Int) := by omega
          have HPk : Hid (part k = if (k : Int) = torn then (min (max bytes 0) 128).toNat else if kp k then 128 else 0) := HP.out k
          have HPO : Hid (Own4 w Wa d g1 (some ⟨g2, i2, none⟩) n m sc2 cc2 fu of S) := hP
          have HZ : Hid ((S.getD at' []).length = 128 ∧ pd.length = 128 ∧ S.length = n) := ⟨hz, hpd, hlen⟩
          clear hP hO hlen hpd hcz hz
          by_cases htn : (k : Int) = torn
          · have HPUT : Hid (∀ Z, Z = cutIn bytes.toNat pd (S.getD at' []) → Own4 w (Wa.drew.setCell ⟨g1, at', none⟩ (strV Z)) d g1 (some ⟨g2, i2, none⟩) n m sc2 cc2 fu of (settleF part 0 d.secs (d.cache.take (k + 1)))) := by
              intro Z hZ
              rw [HT.out, HPk.out, if_pos htn, HNB.out, ← hZ]; exact HPO.out.drew.put at' Z
            subst htn
            have hZS : (⟨(S.getD at' []).toArray⟩ : ByteArray).size = 128 := by rw [size_list]; exact HZ.out.1
            have hPS : (⟨pd.toArray⟩ : ByteArray).size = 128 := by rw [size_list]; exact HZ.out.2.1
            have hcat : (⟨pd.toArray⟩ : ByteArray).extract 0 bytes.toNat ++ (⟨(S.getD at' []).toArray⟩ : ByteArray).extract bytes.toNat 128 = ⟨(cutIn bytes.toNat pd (S.getD at' [])).toArray⟩ := by
              have h1 := extract_take ⟨pd.toArray⟩ bytes.toNat
              have h2 := extract_drop ⟨(S.getD at' []).toArray⟩ bytes.toNat
              rw [hZS] at h2
              rw [h1, h2, str_app]; rfl
            unfold strV at d2 x2 x3 HPUT hWa
            obtain ⟨CC, hCC⟩ : ∃ CC, CC = cutIn bytes.toNat pd (S.getD at' []) := ⟨_, rfl⟩
            have HP2 := HPUT.out CC hCC
            rw [← hCC] at hcat
            have HP3 : Hid (Own4 w (Wa.drew.setCell ⟨g1, at', none⟩ (.string ⟨CC.toArray⟩)) d g1 (some ⟨g2, i2, none⟩) n m sc2 cc2 fu of (settleF part 0 d.secs (d.cache.take (k + 1)))) := HP2
            have hz1 : ((⟨pd.toArray⟩ : ByteArray).extract 0 bytes.toNat).size ≤ 128 := by rw [ByteArray.size_extract]; omega
            have hz2 : ((⟨(S.getD at' []).toArray⟩ : ByteArray).extract bytes.toNat 128).size ≤ 128 := by rw [ByteArray.size_extract]; omega
            have n1 : ¬ 9223372036854775807 < ((⟨pd.toArray⟩ : ByteArray).extract 0 bytes.toNat).size + ((⟨(S.getD at' []).toArray⟩ : ByteArray).extract bytes.toNat 128).size := by omega
            clear hCC HPUT HP2 HT
            generalize (⟨pd.toArray⟩ : ByteArray) = PD at *
            generalize (⟨(S.getD at' []).toArray⟩ : ByteArray) = Z at *
            generalize (⟨CC.toArray⟩ : ByteArray) = CS at *
            go_upto_region 12 with fail
            rw [← hWa]
            clear hWa
            go_wp2_with fail
            go_region
            all_goals go_wp2
            all_goals go_roundw
            all_goals first
              | exact ⟨k + 1, by omega, by go_num, HP3.out⟩
              | exact ⟨k + 1, by omega, by go_num, HC2.out ▸ HP3.out⟩
              | (rw [HC2.out]; exact ⟨k + 1, by omega, by go_num, HP3.out⟩)
              | (simp [intOf]; omega)
          · have htn2 : ((k : Int) == torn) = false := by simpa using htn
            by_cases hkk : k < kn
            · obtain ⟨kb, ki, rfl, hkb, hkc⟩ := HKC.out k hkk
              have hkc2 := (hbl.cell (p := ⟨kb, ki + k, none⟩) hkb).trans hkc
              have hkd : decide ((k : Int) < (kn : Int)) = true := by rw [decide_eq_true_iff]; omega
              have hki : (k : Int) < (kn : Int) := by omega
              by_cases hkv : kp k = true
              · have HPUT : Hid (Own4 w (Wa.setCell ⟨g1, at', none⟩ (strV pd)) d g1 (some ⟨g2, i2, none⟩) n m sc2 cc2 fu of (settleF part 0 d.secs (d.cache.take (k + 1)))) := by
                  show Own4 _ _ _ _ _ _ _ _ _ _ _ _
                  rw [HT.out, HPk.out, if_neg htn, if_pos hkv, cutIn_full HZ.out.2.1 HZ.out.1]; exact HPO.out.put at' pd
                rw [hkv] at hkc2
                unfold strV at d2 x2 x3 HPUT hWa
                clear HT hkc
                generalize (⟨pd.toArray⟩ : ByteArray) = PD at *
                generalize (⟨(S.getD at' []).toArray⟩ : ByteArray) = Z at *
                go_upto_region 12 with fail
                rw [← hWa]
                clear hWa
                go_wp2
                go_roundw
                case rel => exact ⟨k + 1, by omega, by go_num, HPUT.out⟩
                case measure => simp [intOf]; omega
              · have hkv2 : kp k = false := by simpa using hkv
                have HPUT : Hid (Own4 w Wa d g1 (some ⟨g2, i2, none⟩) n m sc2 cc2 fu of (settleF part 0 d.secs (d.cache.take (k + 1)))) := by
                  show Own4 _ _ _ _ _ _ _ _ _ _ _ _
                  rw [HT.out, HPk.out, if_neg htn, if_neg hkv, cutIn_zero, set_getD (by rw [HZ.out.2.2]; exact hat)]; exact HPO.out
                rw [hkv2] at hkc2
                unfold strV at d2 x2 x3 hWa
                clear HT hkc
                generalize (⟨pd.toArray⟩ : ByteArray) = PD at *
                generalize (⟨(S.getD at' []).toArray⟩ : ByteArray) = Z at *
                go_upto_region 12 with fail
                rw [← hWa]
                clear hWa
                go_wp2
                go_roundw
                case rel => exact ⟨k + 1, by omega, by go_num, HPUT.out⟩
                case measure => simp [intOf]; omega
            · have hkv2 : kp k = false := HKN.out k hkk
              have hkd : decide ((k : Int) < (kn : Int)) = false := by rw [decide_eq_false_iff_not]; omega
              have HPUT : Hid (Own4 w Wa d g1 (some ⟨g2, i2, none⟩) n m sc2 cc2 fu of (settleF part 0 d.secs (d.cache.take (k + 1)))) := by
                show Own4 _ _ _ _ _ _ _ _ _ _ _ _
                rw [HT.out, HPk.out, if_neg htn, hkv2, if_neg (by simp), cutIn_zero, set_getD (by rw [HZ.out.2.2]; exact hat)]; exact HPO.out
              unfold strV at d2 x2 x3 hWa
              clear HT
              generalize (⟨pd.toArray⟩ : ByteArray) = PD at *
              generalize (⟨(S.getD at' []).toArray⟩ : ByteArray) = Z at *
              go_upto_region 12 with fail
              rw [← hWa]
              clear hWa
              go_wp2
              go_roundw
              case rel => exact ⟨k + 1, by omega, by go_num, HPUT.out⟩
              case measure => simp [intOf]; omega
        · obtain rfl : k = m := by omega
          rw [HM.out, List.take_length] at hO
          have hlen : (settleF part 0 d.secs d.cache).length = n := by rw [settleF_len]; exact HN.out.symm
          rw [← HM.out] at hO
          have HD := hO.fin hlen HR.out
          obtain ⟨k0, k1, k2, k3, kf⟩ := hO.box.cells
          obtain ⟨q0, q1, q2, q3, qf⟩ := hO.res.cells
          clear hO hlen
          go_wp2
          (try simp only [Exit.inBlock, Exit.then])
          refine bodyPost_ret ?_ rfl HD
          rw [results_cell_tmp rfl]
          go_simp
    · have HNB : Hid ((min (max bytes 0) 128).toNat = 128) := by show _ = _; omega
      have hNB : 128 ≤ 128 := by omega
      have hd1 : decide (bytes < 0) = false := by rw [decide_eq_false_iff_not]; omega
      have hd2 : decide (128 < bytes) = true := by rw [decide_eq_true_iff]; exact hc0
      go_upto_region 9 with fail
      go_wp2_with fail
      go_loopw [27] (fun i wr => ∃ k : Nat, k ≤ m ∧ i = .int .i64 k ∧ Own4 w wr d g1 co2 n m sc2 cc2 fu of (settleF part 0 d.secs (d.cache.take k))) (fun i _ => m - (intOf i).toNat)
      case atStart => exact ⟨0, by omega, rfl, HO9.out⟩
      case round =>
        obtain ⟨k, hk, rfl, hO⟩ := hrel
        clear HO9 k0 k1 k2 k3 kf
        by_cases hlt : k < m
        · have hkz : k < d.cache.length := by rw [← HM.out]; exact hlt
          have hpc : HasPuts wr (.slice co2 m cc2) d.cache := by unfold HasPuts; rw [← HM.out]; exact hasRow_own hO.puts
          obtain ⟨g2, i2, rfl, _, d1, d2⟩ := HasPuts.cell hpc k hkz
          clear hpc
          have HT : Hid (settleF part 0 d.secs (d.cache.take (k + 1)) = (settleF part 0 d.secs (d.cache.take k)).set d.cache[k].1.toNat (cutIn (part k) d.cache[k].2 ((settleF part 0 d.secs (d.cache.take k)).getD d.cache[k].1.toNat []))) := by
            show _ = _
            rw [List.take_succ_eq_append_getElem hkz, settleF_snoc]
            simp only [List.length_take, Nat.zero_add, Nat.min_eq_left (by omega : k ≤ d.cache.length)]
          have hin := HK.out.puts d.cache[k] (List.getElem_mem hkz)
          generalize d.cache[k] = p at d1 d2 HT hin
          obtain ⟨pa, pd⟩ := p
          obtain ⟨hin, hpd⟩ := hin
          simp only [inB, decide_eq_true_eq] at hin
          obtain ⟨at', rfl⟩ := Int.eq_ofNat_of_zero_le hin.1
          have hat : at' < n := by have := HN.out; omega
          simp only at d1 d2 HT hpd
          rw [Int.toNat_natCast] at HT
          have hlen : (settleF part 0 d.secs (d.cache.take k)).length = n := by rw [settleF_len]; exact HN.out.symm
          have hz := settleF_all part HPL.out (d.cache.take k) 0 d.secs HK.out.whole (fun p hpm => HK.out.puts p (List.mem_of_mem_take hpm)) _ (getD_mem (zs := settleF part 0 d.secs (d.cache.take k)) (k := at') (by rw [hlen]; exact hat))
          obtain ⟨S, hS⟩ : ∃ S, S = settleF part 0 d.secs (d.cache.take k) := ⟨_, rfl⟩
          rw [← hS] at hO HT hlen hz
          clear hS hin
          have hcz : wr.cell? ⟨g1, at', none⟩ = some (strV (S.getD at' [])) := by
            rw [hO.secs.cellAt at' (by omega), List.getElem?_map, List.getD_eq_getElem?_getD, List.getElem?_eq_getElem (by omega)]; rfl
          obtain ⟨Wa, hWa⟩ : ∃ Wa, Wa = wr.alloc (.cells #[.int .i64 (at' : Int), strV pd] 52) := ⟨_, rfl⟩
          have hP : Own4 w Wa d g1 (some ⟨g2, i2, none⟩) n m sc2 cc2 fu of S := by rw [hWa]; exact hO.alloc _
          have x1 : Wa.cell? ⟨wr.heap.size, 0, none⟩ = some (.int .i64 (at' : Int)) := by
            rw [hWa]; simp only [World.cell?, heap_alloc_new]; exact if_neg (by simp)
          have x2 : Wa.cell? ⟨wr.heap.size, 1, none⟩ = some (strV pd) := by
            rw [hWa]; simp only [World.cell?, heap_alloc_new]; exact if_neg (by simp)
          have x3 : Wa.cell? ⟨g1, at', none⟩ = some (strV (S.getD at' [])) := by
            rw [← hcz, hWa]; exact ((Below.refl _ wr).alloc (Nat.le_refl _) _).cell (p := ⟨g1, at', none⟩) (hO.secs.lt g1 rfl).2
          have x4 := hP.secs.frozenAt at'
          have hbl : Below w.heap.size w Wa := hP.below
          obtain ⟨y0, _⟩ := hP.box.cells
          have hati : (at' : Int) < (n : Int) := by omega
          have HPk : Hid (part k = if (k : Int) = torn then (min (max bytes 0) 128).toNat else if kp k then 128 else 0) := HP.out k
          have HPO : Hid (Own4 w Wa d g1 (some ⟨g2, i2, none⟩) n m sc2 cc2 fu of S) := hP
          have HZ : Hid ((S.getD at' []).length = 128 ∧ pd.length = 128 ∧ S.length = n) := ⟨hz, hpd, hlen⟩
          clear hP hO hlen hpd hcz hz
          by_cases htn : (k : Int) = torn
          · have HPUT : Hid (∀ Z, Z = cutIn 128 pd (S.getD at' []) → Own4 w (Wa.drew.setCell ⟨g1, at', none⟩ (strV Z)) d g1 (some ⟨g2, i2, none⟩) n m sc2 cc2 fu of (settleF part 0 d.secs (d.cache.take (k + 1)))) := by
              intro Z hZ
              rw [HT.out, HPk.out, if_pos htn, HNB.out, ← hZ]; exact HPO.out.drew.put at' Z
            subst htn
            have hZS : (⟨(S.getD at' []).toArray⟩ : ByteArray).size = 128 := by rw [size_list]; exact HZ.out.1
            have hPS : (⟨pd.toArray⟩ : ByteArray).size = 128 := by rw [size_list]; exact HZ.out.2.1
            have hcat : (⟨pd.toArray⟩ : ByteArray).extract 0 128 ++ (⟨(S.getD at' []).toArray⟩ : ByteArray).extract 128 128 = ⟨(cutIn 128 pd (S.getD at' [])).toArray⟩ := by
              have h1 := extract_take ⟨pd.toArray⟩ 128
              have h2 := extract_drop ⟨(S.getD at' []).toArray⟩ 128
              rw [hZS] at h2
              rw [h1, h2, str_app]; rfl
            unfold strV at d2 x2 x3 HPUT hWa
            obtain ⟨CC, hCC⟩ : ∃ CC, CC = cutIn 128 pd (S.getD at' []) := ⟨_, rfl⟩
            have HP2 := HPUT.out CC hCC
            rw [← hCC] at hcat
            have HP3 : Hid (Own4 w (Wa.drew.setCell ⟨g1, at', none⟩ (.string ⟨CC.toArray⟩)) d g1 (some ⟨g2, i2, none⟩) n m sc2 cc2 fu of (settleF part 0 d.secs (d.cache.take (k + 1)))) := HP2
            have HC2 : Hid ((⟨pd.toArray⟩ : ByteArray).extract 0 128 = ⟨CC.toArray⟩) := by show _ = _; rw [← hcat]; simp
            have hz1 : ((⟨pd.toArray⟩ : ByteArray).extract 0 128).size ≤ 128 := by rw [ByteArray.size_extract]; omega
            have hz2 : ((⟨(S.getD at' []).toArray⟩ : ByteArray).extract 128 128).size ≤ 128 := by rw [ByteArray.size_extract]; omega
            have n1 : ¬ 9223372036854775807 < ((⟨pd.toArray⟩ : ByteArray).extract 0 128).size + ((⟨(S.getD at' []).toArray⟩ : ByteArray).extract 128 128).size := by omega
            clear hCC HPUT HP2 HT
            generalize (⟨pd.toArray⟩ : ByteArray) = PD at *
            generalize (⟨(S.getD at' []).toArray⟩ : ByteArray) = Z at *
            generalize (⟨CC.toArray⟩ : ByteArray) = CS at *
            go_upto_region 12 with fail
            rw [← hWa]
            clear hWa
            go_wp2_with fail
            go_region
            all_goals go_wp2
            all_goals go_roundw
            all_goals first
              | exact ⟨k + 1, by omega, by go_num, HP3.out⟩
              | exact ⟨k + 1, by omega, by go_num, HC2.out ▸ HP3.out⟩
              | (rw [HC2.out]; exact ⟨k + 1, by omega, by go_num, HP3.out⟩)
              | (simp [intOf]; omega)
          · have htn2 : ((k : Int) == torn) = false := by simpa using htn
            by_cases hkk : k < kn
            · obtain ⟨kb, ki, rfl, hkb, hkc⟩ := HKC.out k hkk
              have hkc2 := (hbl.cell (p := ⟨kb, ki + k, none⟩) hkb).trans hkc
              have hkd : decide ((k : Int) < (kn : Int)) = true := by rw [decide_eq_true_iff]; omega
              have hki : (k : Int) < (kn : Int) := by omega
              by_cases hkv : kp k = true
              · have HPUT : Hid (Own4 w (Wa.setCell ⟨g1, at', none⟩ (strV pd)) d g1 (some ⟨g2, i2, none⟩) n m sc2 cc2 fu of (settleF part 0 d.secs (d.cache.take (k + 1)))) := by
                  show Own4 _ _ _ _ _ _ _ _ _ _ _ _
                  rw [HT.out, HPk.out, if_neg htn, if_pos hkv, cutIn_full HZ.out.2.1 HZ.out.1]; exact HPO.out.put at' pd
                rw [hkv] at hkc2
                unfold strV at d2 x2 x3 HPUT hWa
                clear HT hkc
                generalize (⟨pd.toArray⟩ : ByteArray) = PD at *
                generalize (⟨(S.getD at' []).toArray⟩ : ByteArray) = Z at *
                go_upto_region 12 with fail
                rw [← hWa]
                clear hWa
                go_wp2
                go_roundw
                case rel => exact ⟨k + 1, by omega, by go_num, HPUT.out⟩
                case measure => simp [intOf]; omega
              · have hkv2 : kp k = false := by simpa using hkv
                have HPUT : Hid (Own4 w Wa d g1 (some ⟨g2, i2, none⟩) n m sc2 cc2 fu of (settleF part 0 d.secs (d.cache.take (k + 1)))) := by
                  show Own4 _ _ _ _ _ _ _ _ _ _ _ _
                  rw [HT.out, HPk.out, if_neg htn, if_neg hkv, cutIn_zero, set_getD (by rw [HZ.out.2.2]; exact hat)]; exact HPO.out
                rw [hkv2] at hkc2
                unfold strV at d2 x2 x3 hWa
                clear HT hkc
                generalize (⟨pd.toArray⟩ : ByteArray) = PD at *
                generalize (⟨(S.getD at' []).toArray⟩ : ByteArray) = Z at *
                go_upto_region 12 with fail
                rw [← hWa]
                clear hWa
                go_wp2
                go_roundw
                case rel => exact ⟨k + 1, by omega, by go_num, HPUT.out⟩
                case measure => simp [intOf]; omega
            · have hkv2 : kp k = false := HKN.out k hkk
              have hkd : decide ((k : Int) < (kn : Int)) = false := by rw [decide_eq_false_iff_not]; omega
              have HPUT : Hid (Own4 w Wa d g1 (some ⟨g2, i2, none⟩) n m sc2 cc2 fu of (settleF part 0 d.secs (d.cache.take (k + 1)))) := by
                show Own4 _ _ _ _ _ _ _ _ _ _ _ _
                rw [HT.out, HPk.out, if_neg htn, hkv2, if_neg (by simp), cutIn_zero, set_getD (by rw [HZ.out.2.2]; exact hat)]; exact HPO.out
              unfold strV at d2 x2 x3 hWa
              clear HT
              generalize (⟨pd.toArray⟩ : ByteArray) = PD at *
              generalize (⟨(S.getD at' []).toArray⟩ : ByteArray) = Z at *
              go_upto_region 12 with fail
              rw [← hWa]
              clear hWa
              go_wp2
              go_roundw
              case rel => exact ⟨k + 1, by omega, by go_num, HPUT.out⟩
              case measure => simp [intOf]; omega
        · obtain rfl : k = m := by omega
          rw [HM.out, List.take_length] at hO
          have hlen : (settleF part 0 d.secs d.cache).length = n := by rw [settleF_len]; exact HN.out.symm
          rw [← HM.out] at hO
          have HD := hO.fin hlen HR.out
          obtain ⟨k0, k1, k2, k3, kf⟩ := hO.box.cells
          obtain ⟨q0, q1, q2, q3, qf⟩ := hO.res.cells
          clear hO hlen
          go_wp2
          (try simp only [Exit.inBlock, Exit.then])
          refine bodyPost_ret ?_ rfl HD
          rw [results_cell_tmp rfl]
          go_simp
  · have hok' : okB d = false := by simpa using hok
    have HR2 : Hid (outD d (crashD d keep torn bytes) = (zeroD, 2)) := by show _ = _; rw [outD, if_neg hok]
    obtain ⟨X, hX⟩ : ∃ X, X = (w.alloc (.cells #[.slice so d.secs.length sc, .slice co d.cache.length cc, .int .i64 d.fuse, .bool d.off] 25)).alloc (.cells #[.slice none 0 0, .slice none 0 0, .int .i64 0, .bool false] 25) := ⟨_, rfl⟩
    have hB0 : Below w.heap.size w X := by rw [hX]; exact ((Below.refl _ w).alloc (Nat.le_refl _) _).alloc (by simp) _
    have vr : RBox X (w.heap.size + 1) := by
      have := heap_alloc_new (w.alloc (.cells #[.slice so d.secs.length sc, .slice co d.cache.length cc, .int .i64 d.fuse, .bool d.off] 25)) (.cells #[.slice none 0 0, .slice none 0 0, .int .i64 0, .bool false] 25)
      rw [World.size_alloc, ← hX] at this
      exact this
    rw [checkE_bad hok'] at cchk
    clear hok hok' hs hc h hf hk
    generalize outD d (crashD d keep torn bytes) = R at *
    go_enter Try.func18, Try.ntmps18
    go_wp2_with fail
    rw [← hX]
    go_at_call 16; refine (cchk X hB0).mono ?_; rintro e w1 ⟨rfl, hb⟩
    obtain ⟨q0, q1, q2, q3, qf⟩ := (vr.below hb).cells
    have hbw := below2 hB0 hb
    clear hX
    go_wp2
    (try simp only [Exit.inBlock, Exit.then])
    refine bodyPost_ret (v := .tuple #[.agg #[.slice none 0 0, .slice none 0 0, .int .i64 0, .bool false], .int .i64 2]) ?_ rfl (by rw [HR2.out]; exact ⟨_, rfl, zeroD_has _, set4_below hbw (by omega) _ _ _ _⟩)
    rw [results_cell_tmp rfl]
    go_simp
end Go.Proofs.Ythjphgchnlihnaa.Disk
