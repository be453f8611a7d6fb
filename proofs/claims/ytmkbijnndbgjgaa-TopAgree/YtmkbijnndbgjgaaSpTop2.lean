/- What span.Make and Not return. -/
import Derived.Test.YtmkbijnndbgjgaaSpTop
import Derived.Deep.RegionHeld3
import Derived.Deep.DeepCutAuto
set_option linter.unusedVariables false
namespace Go.Proofs.Ytmkbijnndbgjgaa.Sp
open Go.RowKit Go.Shelf
open Go.Proofs.Ytmkbijnndbgjgaa.Lk (HasRow hasRow_own addr_add)
open Go.Proofs.Ytmkbijnndbgjgaa.Addr (Pf pfV okP lastN lastE wideN rightB hiN loN adV cmpN RowAt below2 below_drew below_new bset RowAt.lt RowAt.cell RowAt.frozen RowAt.below RowAt.drew RowAt.new RowAt.alloc cells2 cells4 results_cell gset grefl)
theorem all_step {six : Bool} {l : List Sp} {k : Nat} (hk : k < l.length) (h : ∀ s ∈ l.take k, okS six s = true) (hs : okS six l[k] = true) : ∀ s ∈ l.take (k + 1), okS six s = true := by
  intro s hq
  rw [List.take_succ_eq_append_getElem hk] at hq
  rcases List.mem_append.1 hq with hq | hq
  · exact h s hq
  · rw [List.mem_singleton.1 hq]; exact hs
set_option maxHeartbeats 4000000 in
set_option maxRecDepth 20000 in
theorem make_any (six : Bool) (l : List Sp) (v : Value) (w : World) (h : HasSps w v l) (hf : ∀ s ∈ l, FitS s) (hlen : l.length ≤ 1024) :
    Calls Try.prog 66 #[.bool six, v] w (AnsIs six w (l.all (okS six)) 2 (fun x => inB l x) l.length) := by
  obtain ⟨o, c, rfl, hc1, hc2⟩ := HasRow.slice h
  have hq1 : decide ((1024 : Int) < (l.length : Int)) = false := decide_eq_false (by omega)
  have hq2 : decide (1024 < l.length) = false := decide_eq_false (by omega)
  have cg := addresses_any six w
  have crun := fun (W : World) (hq : HasSps W (.slice o l.length c) l) => runs_any l (.slice o l.length c) W hq (by omega)
  have cor := fun (hall : ∀ s ∈ l, okS six s = true) (W : World) (u : Value) (g : Nat) (hq : HasSps W u l) (hg : SixAt W g six) => orF_any six l u g W hq hall hg (by omega)
  have crt := fun (s : Sp) (hs : FitS s) (g : Nat) (W : World) (hq : SixAt W g six) => rightF_any six s g W hs hq
  have HK : Hid (∀ W, Below w.heap.size w W → HasSps W (.slice o l.length c) l) := fun W hq => h.keep hq
  have HF : Hid (∀ s ∈ l, FitS s) := hf
  have HA : Hid (∀ ok, (l.all (okS six)) = ok → ok = true → ∀ s ∈ l, okS six s = true) := fun ok h1 h2 s hs => by rw [h2] at h1; exact List.all_eq_true.1 h1 s hs
  have HT : Hid ((∀ s ∈ l, okS six s = true) → (l.all (okS six)) = true) := fun h => List.all_eq_true.2 h
  have HB : Hid (∀ k (hk : k < l.length), okS six l[k] = false → (l.all (okS six)) = false) := fun k hk h => by
    rw [List.all_eq_false]; exact ⟨l[k], List.getElem_mem hk, by rw [h]; simp⟩
  obtain ⟨ok, hok⟩ : ∃ ok, ok = (l.all (okS six)) := ⟨_, rfl⟩
  rw [← hok] at HT HB ⊢
  obtain ⟨n, hn⟩ : ∃ n, n = l.length := ⟨_, rfl⟩
  have HN : Hid (l.length = n) := hn.symm
  rw [← hn] at hlen hc1 hq1 hq2 crun cor HK ⊢
  clear h hf HA hok hn
  have hni : (n : Int) ≤ 1024 := by omega
  unfold fdV f0 f1 f2 f3 at cor crt
  go_enter Try.func66, Try.ntmps66
  go_wp2_with fail
  go_at_call 71; refine cg.mono ?_; rintro e w1 ⟨g, rfl, hg, -, hb1⟩
  have hh := HK.out _ hb1
  unfold fdV f0 f1 f2 f3
  go_wp2_with fail
  go_at_call 73; refine (crun _ hh).mono ?_; rintro e w2 ⟨u, rfl, hO⟩
  replace hg := hg.keep hO.bl
  have hb2 := below2 hb1 hO.bl
  have hu := hO.has
  clear hO hh crun hb1 cg
  obtain ⟨o2, c2, rfl, hc3, hc4⟩ := HasRow.slice hu
  rw [HN.out] at hu hc3 ⊢
  obtain ⟨Y, hY⟩ : ∃ Y, Y = w2.alloc (.cells #[.func (.func 87) #[] #[.pointer (some ⟨g, 0, none⟩)], .func (.func 89) #[] #[], .func (.func 90) #[] #[.pointer (some ⟨g, 0, none⟩)], .func (.func 92) #[] #[.pointer (some ⟨g, 0, none⟩)]] 123) := ⟨_, rfl⟩
  have hbY : Below w2.heap.size w2 Y := by rw [hY]; exact below_new (Below.refl _ _) _
  have rf : RowAt Y w2.heap.size (fieldRow g) 123 := by rw [hY]; exact RowAt.new _ _ _
  have HR : Hid (∀ W, Below Y.heap.size Y W → HasSps W (.slice o2 n c2) l ∧ SixAt W g six ∧ RowAt W w2.heap.size (fieldRow g) 123 ∧ Below w.heap.size w W) := fun W hq => ⟨(hu.keep hbY).keep hq, (hg.keep hbY).keep hq, rf.below hq, below2 (below2 hb2 hbY) hq⟩
  clear hu hg hbY rf hb2
  obtain ⟨gf, hgf⟩ : ∃ q, q = w2.heap.size := ⟨_, rfl⟩
  rw [← hgf] at HR
  go_upto_region 4 with fail
  rw [← hY, ← hgf]
  clear hY hgf
  go_wp2_with fail
  go_loopw [19] (fun q wr => ∃ k : Nat, k ≤ n ∧ q = .int .i64 k ∧ Below Y.heap.size Y wr ∧ Hid (∀ s ∈ l.take k, okS six s = true)) (fun q _ => n - (Go.RowKit.intOf q).toNat)
  case atStart => exact ⟨0, by omega, rfl, Below.refl _ _, by intro s hs; simp at hs⟩
  case round =>
    obtain ⟨k, hk, rfl, hB, HI⟩ := hrel
    obtain ⟨hh, hg, rf, hW⟩ := HR.out _ hB
    by_cases hlt : k < n
    · have hkz : k < l.length := by rw [HN.out]; exact hlt
      obtain ⟨g1, i1, rfl, hg1, a0, a1, a2, a3⟩ := HasSps.cell hh k hkz
      have crk := crt l[k] (HF.out _ (List.getElem_mem hkz)) g
      unfold spV at crk
      have HV1 : Hid (okS six l[k] = false → ok = false) := fun h => HB.out k hkz h
      have HV2 : Hid (okS six l[k] = true → ∀ s ∈ l.take (k + 1), okS six s = true) := fun h => all_step hkz HI.out h
      have hki : (k : Int) < (n : Int) := by omega
      clear HI hg1 hh
      generalize okS six l[k] = D at *
      generalize hiN l[k].1 = x1 at *
      generalize loN l[k].1 = x2 at *
      generalize hiN l[k].2 = x3 at *
      generalize loN l[k].2 = x4 at *
      go_upto_region 7 with fail
      obtain ⟨X, hX⟩ : ∃ X, X = wr.alloc (.cells #[.int .u64 (x1 : Int), .int .u64 (x2 : Int), .int .u64 (x3 : Int), .int .u64 (x4 : Int)] 130) := ⟨_, rfl⟩
      have hbX : Below wr.heap.size wr X := by rw [hX]; exact below_new (Below.refl _ _) _
      have rx : RowAt X wr.heap.size [.int .u64 (x1 : Int), .int .u64 (x2 : Int), .int .u64 (x3 : Int), .int .u64 (x4 : Int)] 130 := by rw [hX]; exact RowAt.new _ _ _
      rw [← hX]
      replace hg := hg.keep hbX
      replace rf := rf.below hbX
      replace hB := below2 hB hbX
      replace hW := below2 hW hbX
      clear hX hbX a0 a1 a2 a3
      generalize wr.heap.size = gs at rx ⊢
      obtain ⟨q0, q1, q2, q3, qf⟩ := cells4 rf
      obtain ⟨y0, y1, y2, y3, yf⟩ := cells4 rx
      have crk2 := crk _ hg
      clear crk rx rf hg
      go_wp2_with fail
      go_at_call 85; refine crk2.mono ?_; rintro e w5 ⟨rfl, hb5⟩
      replace hB := below2 hB hb5
      replace hW := below2 hW hb5
      clear crk2 hb5 q0 q1 q2 q3 qf y0 y1 y2 y3 yf
      cases D
      · have hV := HV1.out (by first | rfl | trivial)
        have HV : Hid (AnsIs six w ok 2 (fun x => inB l x) n (.returned (.tuple #[.slice none 0 0, .int .i64 2])) w5) := by rw [hV]; exact ans_bad hW
        clear HV1 HV2 hV HB HT
        go_wp2_with fail
        go_ret2
        exact HV.out
      · have HV3 : Hid (∀ s ∈ l.take (k + 1), okS six s = true) := HV2.out (by first | rfl | trivial)
        clear HV1 HV2
        go_wp2_with fail
        go_roundw
        case rel => exact ⟨k + 1, by omega, by go_num, hB, HV3⟩
        case measure => simp [Go.RowKit.intOf]; omega
    · have hkn : decide ((k : Int) < (n : Int)) = false := decide_eq_false (by omega)
      have hall : ∀ s ∈ l, okS six s = true := by
        have h := HI.out
        rw [List.take_of_length_le (by have := HN.out; omega)] at h
        exact h
      have hokt := HT.out hall
      subst hokt
      obtain ⟨q0, q1, q2, q3, qf⟩ := cells4 rf
      have cor2 := cor hall _ _ _ hh hg
      clear cor hh hg rf HI hall HB HT
      go_wp2_with fail
      go_at_call 72; refine cor2.mono ?_; rintro e w6 ⟨v6, R, rfl, hO6, hR1, hR2, hR3⟩
      have hB6 := below2 hW hO6.bl
      have hv6 := hO6.has
      have ct := told_ans (bad := 2) (m := fun x => inB l x) hB6 hv6 hR1 hR2 hR3
      clear hO6 cor2 hR1 hR2 hR3 hv6 q0 q1 q2 q3 qf
      go_wp2_with fail
      go_at_call 70; refine ct.mono ?_; rintro e w7 ⟨⟨v7, why, rfl⟩, hA⟩
      have HA : Hid (AnsIs six w true 2 (fun x => inB l x) n (.returned (.tuple #[v7, .int .i64 why])) w7) := hA
      clear hA ct
      go_wp2_with fail
      go_ret2
      exact HA.out
theorem makeL_any (six : Bool) (l : List Sp) (v : Value) (w : World) (h : HasSps w v l) (hlen : 1024 < l.length) :
    Calls Try.prog 66 #[.bool six, v] w fun e w' => e = .returned (.tuple #[.slice none 0 0, .int .i64 11]) ∧ w' = w := by
  obtain ⟨o, c, rfl, hc1, hc2⟩ := HasRow.slice h
  have hq1 : decide ((1024 : Int) < (l.length : Int)) = true := decide_eq_true (by omega)
  have hq2 : decide (1024 < l.length) = true := decide_eq_true hlen
  generalize l.length = n at *
  clear h
  go_enter Try.func66, Try.ntmps66
  go_wp2_with fail
  go_ret2
  exact ⟨rfl, rfl⟩
end Go.Proofs.Ytmkbijnndbgjgaa.Sp
