/- The document's answers that the statements on disks ask for. -/
import Derived.Test.YthjphgchnlihnaaDiskVar
set_option linter.unusedVariables false
namespace Go.Proofs.Ythjphgchnlihnaa.Disk
open Go.RowKit Go.Shelf

set_option maxHeartbeats 2000000 in
set_option maxRecDepth 20000 in
theorem lives_any (w : World) : Calls Try.prog 13 #[] w fun e w' => e = .returned (.bool true) ∧ Below w.heap.size w w' := by
  have ca := fun w => full_any 97 w
  have cb := fun w => full_any 98 w
  rw [show ((97 : UInt8).toNat : Int) = 97 from rfl] at ca
  rw [show ((98 : UInt8).toNat : Int) = 98 from rfl] at cb
  unfold strV at ca cb
  have HA : Hid ((⟨(fullS 97).toArray⟩ : ByteArray) = ⟨(fullS 97).toArray⟩) := rfl
  have cw2 : ∀ w so sc co cc, HasStrs w (.slice so L1.secs.length sc) L1.secs → HasPuts w (.slice co L1.cache.length cc) L1.cache → Calls Try.prog 7 #[.agg #[.slice so L1.secs.length sc, .slice co L1.cache.length cc, .int .i64 L1.fuse, .bool L1.off], .int .i64 1, .string ⟨(fullS 97).toArray⟩] w (Back L2 0 w) := fun w so sc co cc h1 h2 =>
    (write_fn L1 _ 1 (fullS 97) w ⟨_, _, rfl, h1, h2⟩ f1 (by omega) (by simp [fullS])).mono (fun e w' h => by have := back_of h; rw [l2] at this; exact this)
  have cf3 : ∀ w so sc co cc, HasStrs w (.slice so L2.secs.length sc) L2.secs → HasPuts w (.slice co L2.cache.length cc) L2.cache → Calls Try.prog 9 #[.agg #[.slice so L2.secs.length sc, .slice co L2.cache.length cc, .int .i64 L2.fuse, .bool L2.off]] w (Back L3 0 w) := fun w so sc co cc h1 h2 =>
    (flush_fn L2 _ w ⟨_, _, rfl, h1, h2⟩ f2).mono (fun e w' h => by have := back_of h; rw [l3] at this; exact this)
  have cw4 : ∀ w so sc co cc, HasStrs w (.slice so L3.secs.length sc) L3.secs → HasPuts w (.slice co L3.cache.length cc) L3.cache → Calls Try.prog 7 #[.agg #[.slice so L3.secs.length sc, .slice co L3.cache.length cc, .int .i64 L3.fuse, .bool L3.off], .int .i64 1, .string ⟨(fullS 98).toArray⟩] w (Back L4 0 w) := fun w so sc co cc h1 h2 =>
    (write_fn L3 _ 1 (fullS 98) w ⟨_, _, rfl, h1, h2⟩ f3 (by omega) (by simp [fullS])).mono (fun e w' h => by have := back_of h; rw [l4] at this; exact this)
  have cr4 : ∀ w so sc co cc, HasStrs w (.slice so L4.secs.length sc) L4.secs → HasPuts w (.slice co L4.cache.length cc) L4.cache → Calls Try.prog 11 #[.agg #[.slice so L4.secs.length sc, .slice co L4.cache.length cc, .int .i64 L4.fuse, .bool L4.off], .int .i64 1] w fun e w' => e = .returned (.tuple #[.string ⟨(fullS 98).toArray⟩, .int .i64 0]) ∧ Below w.heap.size w w' := fun w so sc co cc h1 h2 =>
    (read_fn L4 _ 1 w ⟨_, _, rfl, h1, h2⟩ f4 (by omega)).mono (fun e w' h => by unfold TextIs at h; rw [l4r] at h; exact h)
  have cc5 : ∀ w so sc co cc, HasStrs w (.slice so L4.secs.length sc) L4.secs → HasPuts w (.slice co L4.cache.length cc) L4.cache → Calls Try.prog 17 #[.agg #[.slice so L4.secs.length sc, .slice co L4.cache.length cc, .int .i64 L4.fuse, .bool L4.off], .slice none 0 0, .int .i64 0, .int .i64 1] w (Back L5 0 w) := fun w so sc co cc h1 h2 =>
    (crash_fn L4 _ _ [] 0 1 w ⟨_, _, rfl, h1, h2⟩ f4 (hasRow_nil _ _) (by omega) (by omega)).mono (fun e w' h => by have := back_of h; rw [l5] at this; exact this)
  have cr5 : ∀ w so sc co cc, HasStrs w (.slice so L5.secs.length sc) L5.secs → HasPuts w (.slice co L5.cache.length cc) L5.cache → Calls Try.prog 11 #[.agg #[.slice so L5.secs.length sc, .slice co L5.cache.length cc, .int .i64 L5.fuse, .bool L5.off], .int .i64 1] w fun e w' => e = .returned (.tuple #[.string ⟨(98 :: List.replicate 127 97 : List UInt8).toArray⟩, .int .i64 0]) ∧ Below w.heap.size w w' := fun w so sc co cc h1 h2 =>
    (read_fn L5 _ 1 w ⟨_, _, rfl, h1, h2⟩ f5 (by omega)).mono (fun e w' h => by unfold TextIs at h; rw [l5r] at h; exact h)
  have cw8 : ∀ w so sc co cc, HasStrs w (.slice so L4.secs.length sc) L4.secs → HasPuts w (.slice co L4.cache.length cc) L4.cache → Calls Try.prog 7 #[.agg #[.slice so L4.secs.length sc, .slice co L4.cache.length cc, .int .i64 L4.fuse, .bool L4.off], .int .i64 2, .string ⟨(fullS 98).toArray⟩] w fun e w' => ∃ r : Dk, Back r 1 w e w' := fun w so sc co cc h1 h2 =>
    (write_fn L4 _ 2 (fullS 98) w ⟨_, _, rfl, h1, h2⟩ f4 (by omega) (by simp [fullS])).mono (fun e w' h => ⟨_, by have := back_of h; rw [l4w] at this; exact this⟩)
  have cf7 : ∀ w so sc co cc, HasStrs w (.slice so L4.secs.length sc) L4.secs → HasPuts w (.slice co L4.cache.length cc) L4.cache → Calls Try.prog 9 #[.agg #[.slice so L4.secs.length sc, .slice co L4.cache.length cc, .int .i64 0, .bool L4.off]] w (Back L7 9 w) := fun w so sc co cc h1 h2 =>
    (flush_fn L6 _ w ⟨_, _, rfl, h1, h2⟩ f6).mono (fun e w' h => by have := back_of h; rw [l7] at this; exact this)
  have cr7 : ∀ w so sc co cc, HasStrs w (.slice so L7.secs.length sc) L7.secs → HasPuts w (.slice co L7.cache.length cc) L7.cache → Calls Try.prog 11 #[.agg #[.slice so L7.secs.length sc, .slice co L7.cache.length cc, .int .i64 L7.fuse, .bool L7.off], .int .i64 1] w fun e w' => e = .returned (.tuple #[.string ⟨#[]⟩, .int .i64 9]) ∧ Below w.heap.size w w' := fun w so sc co cc h1 h2 =>
    (read_fn L7 _ 1 w ⟨_, _, rfl, h1, h2⟩ f7 (by omega)).mono (fun e w' h => by unfold TextIs at h; rw [l7r] at h; exact h)
  have cm1 := mk_i
  unfold Back at cw2 cf3 cw4 cc5 cw8 cf7
  have HX : Hid ((⟨#[98]⟩ : ByteArray) ++ (⟨(fullS 97).toArray⟩ : ByteArray).extract 1 128 = ⟨(98 :: List.replicate 127 97 : List UInt8).toArray⟩) := by
    show _ = _
    have h := extract_drop ⟨(fullS 97).toArray⟩ 1
    rw [size_list, show (fullS 97).length = 128 from by simp [fullS]] at h
    rw [h, show (⟨#[98]⟩ : ByteArray) = ⟨[98].toArray⟩ from rfl, str_app]
    congr 1
  have hSA : (⟨(fullS 97).toArray⟩ : ByteArray).size = 128 := by rw [size_list]; simp [fullS]
  generalize (⟨(98 :: List.replicate 127 97 : List UInt8).toArray⟩ : ByteArray) = TT at cr5 HX
  generalize (⟨(fullS 97).toArray⟩ : ByteArray) = SA at ca cw2 HX hSA
  generalize (⟨(fullS 98).toArray⟩ : ByteArray) = SB at cb cw4 cr4 cw8
  have h7o := l7o
  have HO7 : Hid (L7.off = true) := l7o
  clear HA h7o
  generalize L1 = M1 at *
  generalize L2 = M2 at *
  generalize L3 = M3 at *
  generalize L4 = M4 at *
  generalize L5 = M5 at *
  generalize L7 = M7 at *
  go_enter Try.func13, Try.ntmps13
  go_wp2_with fail
  go_at_call 21; refine (cm1 _).mono ?_; rintro e w1 ⟨so, sc, co, cc, rfl, hs, hc, hb⟩
  have v1 := VDk.new hs hc
  have hB1 : Below w.heap.size w (w1.alloc (.cells #[.slice so M1.secs.length sc, .slice co M1.cache.length cc, .int .i64 M1.fuse, .bool M1.off] 25)) := hb.alloc hb.size _
  obtain ⟨W1, hW1⟩ : ∃ W1, W1 = w1.alloc (.cells #[.slice so M1.secs.length sc, .slice co M1.cache.length cc, .int .i64 M1.fuse, .bool M1.off] 25) := ⟨_, rfl⟩
  rw [← hW1] at v1 hB1
  go_upto_region 2 with fail
  rw [← hW1]
  obtain ⟨b, hbb⟩ : ∃ b, b = w1.heap.size := ⟨_, rfl⟩
  have hwb : w.heap.size ≤ b := by rw [hbb]; exact hb.size
  rw [← hbb] at v1 ⊢
  clear hW1 hbb hs hc hb
  go_cut [3] (fun e wc => e = .int .i64 0 ∧ VDk wc b M2 ∧ Below w.heap.size w wc)
  case first =>
    have HV : Hid (VDk W1 b M1) := v1
    obtain ⟨so, sc, co, cc, vb, hs, hc⟩ := v1
    obtain ⟨q0, q1, q2, q3, qf⟩ := vb.cells
    have hbl := vb.lt
    go_region_with (first
      | (go_at_call 35
         refine (ca _).mono ?_
         rintro e w2 ⟨rfl, hb2⟩
         have hbA : Below W1.heap.size W1 w2 := below2 (by (repeat' (first | exact Below.refl _ _ | refine Below.drew ?_))) hb2
         have t0 := ((bcell hbA).1 b 0 hbl).trans q0
         have t1 := ((bcell hbA).1 b 1 hbl).trans q1
         have t2 := ((bcell hbA).1 b 2 hbl).trans q2
         have t3 := ((bcell hbA).1 b 3 hbl).trans q3)
      | (go_at_call 7
         refine (cw2 _ so sc co cc (hs.keep (by (repeat' (first | exact hbA | refine Below.drew ?_)))) (hc.keep (by (repeat' (first | exact hbA | refine Below.drew ?_))))).mono ?_
         rintro e w3 ⟨so3, sc3, co3, cc3, rfl, hs3, hc3, hb3⟩
         have hbB : Below W1.heap.size W1 w3 := below2 (by (repeat' (first | exact hbA | refine Below.drew ?_))) hb3
         obtain ⟨p0, p1, p2, p3, pf⟩ := (vb.below hbB).cells))
    all_goals go_wp2_with fail
    all_goals go_meet
    all_goals exact ⟨rfl, VDk.store (HV.out.below hbB) hs3 hc3, set4_below (hB1.trans (hbB.mono hB1.size)) hwb _ _ _ _⟩
  case rest =>
    obtain ⟨rfl, v2, hB2⟩ := hcut
    clear v1 hB1
    have HV : Hid (VDk wc b M2) := v2
    obtain ⟨so, sc, co, cc, vb, hs, hc⟩ := v2
    obtain ⟨q0, q1, q2, q3, qf⟩ := vb.cells
    go_wp2_with fail
    go_at_call 9; refine (cf3 _ so sc co cc hs hc).mono ?_; rintro e w3 ⟨so3, sc3, co3, cc3, rfl, hs3, hc3, hb3⟩
    obtain ⟨p0, p1, p2, p3, pf⟩ := (vb.below hb3).cells
    have v3 := VDk.store (HV.out.below hb3) hs3 hc3
    have hB3 := set4_below (below2 hB2 hb3) hwb (.slice so3 M3.secs.length sc3) (.slice co3 M3.cache.length cc3) (.int .i64 M3.fuse) (.bool M3.off)
    obtain ⟨W3, hW3⟩ : ∃ W3, W3 = ((((w3.setCell ⟨b, 0, none⟩ (.slice so3 M3.secs.length sc3)).setCell ⟨b, 1, none⟩ (.slice co3 M3.cache.length cc3)).setCell ⟨b, 2, none⟩ (.int .i64 M3.fuse)).setCell ⟨b, 3, none⟩ (.bool M3.off)) := ⟨_, rfl⟩
    rw [← hW3] at v3 hB3
    go_upto_region 4 with fail
    rw [← hW3]
    clear hW3 hs hc hs3 hc3 hb3 p0 p1 p2 p3 pf q0 q1 q2 q3 qf vb HV hB2
    go_cut [5] (fun e wc => e = .int .i64 0 ∧ VDk wc b M4 ∧ Below w.heap.size w wc)
    case first =>
      have HV : Hid (VDk W3 b M3) := v3
      obtain ⟨so, sc, co, cc, vb, hs, hc⟩ := v3
      obtain ⟨q0, q1, q2, q3, qf⟩ := vb.cells
      have hbl := vb.lt
      go_region_with (first
        | (go_at_call 35
           refine (cb _).mono ?_
           rintro e w2 ⟨rfl, hb2⟩
           have hbA : Below W3.heap.size W3 w2 := below2 (by (repeat' (first | exact Below.refl _ _ | refine Below.drew ?_))) hb2
           have t0 := ((bcell hbA).1 b 0 hbl).trans q0
           have t1 := ((bcell hbA).1 b 1 hbl).trans q1
           have t2 := ((bcell hbA).1 b 2 hbl).trans q2
           have t3 := ((bcell hbA).1 b 3 hbl).trans q3)
        | (go_at_call 7
           refine (cw4 _ so sc co cc (hs.keep (by (repeat' (first | exact hbA | refine Below.drew ?_)))) (hc.keep (by (repeat' (first | exact hbA | refine Below.drew ?_))))).mono ?_
           rintro e w4 ⟨so3, sc3, co3, cc3, rfl, hs3, hc3, hb3⟩
           have hbB : Below W3.heap.size W3 w4 := below2 (by (repeat' (first | exact hbA | refine Below.drew ?_))) hb3
           obtain ⟨p0, p1, p2, p3, pf⟩ := (vb.below hbB).cells))
      all_goals go_wp2_with fail
      all_goals go_meet
      all_goals exact ⟨rfl, VDk.store (HV.out.below hbB) hs3 hc3, set4_below (hB3.trans (hbB.mono hB3.size)) hwb _ _ _ _⟩
    case rest =>
      obtain ⟨rfl, v4, hB4⟩ := hcut
      clear v3 hB3
      have HV : Hid (VDk wc b M4) := v4
      obtain ⟨so, sc, co, cc, vb, hs, hc⟩ := v4
      obtain ⟨q0, q1, q2, q3, qf⟩ := vb.cells
      go_wp2_with fail
      go_at_call 11; refine (cr4 _ so sc co cc hs hc).mono ?_; rintro e w5 ⟨rfl, hb5⟩
      obtain ⟨t0, t1, t2, t3, tf⟩ := (vb.below hb5).cells
      go_wp2_with fail
      go_at_call 17; refine (cc5 _ so sc co cc (hs.keep hb5) (hc.keep hb5)).mono ?_; rintro e w6 ⟨so6, sc6, co6, cc6, rfl, hs6, hc6, hb6⟩
      have hb6' : Below wc.heap.size wc (w6.alloc (.cells #[.slice so6 M5.secs.length sc6, .slice co6 M5.cache.length cc6, .int .i64 M5.fuse, .bool M5.off] 25)) := (below2 hb5 hb6).alloc (below2 hb5 hb6).size _
      have hbn : Below w6.heap.size w6 (w6.alloc (.cells #[.slice so6 M5.secs.length sc6, .slice co6 M5.cache.length cc6, .int .i64 M5.fuse, .bool M5.off] 25)) := (Below.refl _ _).alloc (Nat.le_refl _) _
      have vb7 : VBox (w6.alloc (.cells #[.slice so6 M5.secs.length sc6, .slice co6 M5.cache.length cc6, .int .i64 M5.fuse, .bool M5.off] 25)) w6.heap.size (.slice so6 M5.secs.length sc6) (.slice co6 M5.cache.length cc6) (.int .i64 M5.fuse) (.bool M5.off) := heap_alloc_new _ _
      have hs7 := hs6.keep hbn
      have hc7 := hc6.keep hbn
      go_upto_region 7 with fail
      obtain ⟨W6, hW6⟩ : ∃ W6, W6 = w6.alloc (.cells #[.slice so6 M5.secs.length sc6, .slice co6 M5.cache.length cc6, .int .i64 M5.fuse, .bool M5.off] 25) := ⟨_, rfl⟩
      rw [← hW6] at vb7 hb6' hs7 hc7 ⊢
      clear hW6 hbn hs6 hc6 hb6
      obtain ⟨r0, r1, r2, r3, rf⟩ := vb7.cells
      go_wp2_with fail
      go_at_call 11; refine (cr5 _ so6 sc6 co6 cc6 hs7 hc7).mono ?_; rintro e w7 ⟨rfl, hb7⟩
      have hb67 : Below wc.heap.size wc w7 := below2 hb6' hb7
      have v7 := HV.out.below hb67
      have hB7 : Below w.heap.size w w7 := hB4.trans (hb67.mono hB4.size)
      go_upto_region 8 with fail
      clear hs hc hb6' hb67 hb5 q0 q1 q2 q3 qf t0 t1 t2 t3 tf vb HV hB4 vb7 hs7 hc7 r0 r1 r2 r3 rf hb7
      go_cut [13] (fun e wc => e = .int .i64 1 ∧ VDk wc b M4 ∧ Below w.heap.size w wc)
      case first =>
        have HV : Hid (VDk w7 b M4) := v7
        obtain ⟨so, sc, co, cc, vb, hs, hc⟩ := v7
        obtain ⟨q0, q1, q2, q3, qf⟩ := vb.cells
        have hbl := vb.lt
        go_region_with (first
          | (go_at_call 35
             refine (cb _).mono ?_
             rintro e w2 ⟨rfl, hb2⟩
             have hbA : Below w7.heap.size w7 w2 := below2 (by (repeat' (first | exact Below.refl _ _ | refine Below.drew ?_ | refine Below.alloc ?_ (by simp) _))) hb2
             have t0 := ((bcell hbA).1 b 0 hbl).trans q0
             have t1 := ((bcell hbA).1 b 1 hbl).trans q1
             have t2 := ((bcell hbA).1 b 2 hbl).trans q2
             have t3 := ((bcell hbA).1 b 3 hbl).trans q3
             have hz2 : w7.heap.size ≤ w2.heap.size := hbA.size
             have hbl2 : b < w2.heap.size := Nat.lt_of_lt_of_le hbl hz2
             (try (have hz3 : w7.heap.size < w2.heap.size := ?hx; (case hx => (have hq := hb2.size; simp at hq; omega))))
             (try (have n0 := (bcell hb2).1 w7.heap.size 0 ?hx; (case hx => simp)))
             (try (have n1 := (bcell hb2).1 w7.heap.size 1 ?hx; (case hx => simp)))
             (try (have n2 := (bcell hb2).1 w7.heap.size 2 ?hx; (case hx => simp)))
             (try (have n3 := (bcell hb2).1 w7.heap.size 3 ?hx; (case hx => simp)))
             (try (have nf := (fun (hh : _) k => (bcell hb2).2 w7.heap.size k hh) ?hx; (case hx => simp)))
             (try simp [go_sem] at n0 n1 n2 n3 nf))
          | (go_at_call 7
             refine (cw8 _ so sc co cc (hs.keep (by (repeat' (first | exact hbA | refine Below.drew ?_ | refine Below.alloc ?_ (by first | omega | simp) _)))) (hc.keep (by (repeat' (first | exact hbA | refine Below.drew ?_ | refine Below.alloc ?_ (by first | omega | simp) _))))).mono ?_
             rintro e w8 ⟨r8, so3, sc3, co3, cc3, rfl, hs3, hc3, hb3⟩
             have hbB : Below w7.heap.size w7 w8 := below2 (by (repeat' (first | exact hbA | refine Below.drew ?_ | refine Below.alloc ?_ (by first | omega | simp) _))) hb3
             (try (have m0 := (bcell hb3).1 w7.heap.size 0 ?hx; (case hx => first | exact hz3 | (simp; omega))))
             (try (have m1 := (bcell hb3).1 w7.heap.size 1 ?hx; (case hx => first | exact hz3 | (simp; omega))))
             (try (have m2 := (bcell hb3).1 w7.heap.size 2 ?hx; (case hx => first | exact hz3 | (simp; omega))))
             (try (have m3 := (bcell hb3).1 w7.heap.size 3 ?hx; (case hx => first | exact hz3 | (simp; omega))))
             (try (have mf := (fun (hh : _) k => (bcell hb3).2 w7.heap.size k hh) ?hx; (case hx => first | exact hz3 | (simp; omega))))
             (try simp only [n0, n1, n2, n3, nf] at m0 m1 m2 m3 mf)
             (try (have o0 := (bcell hb3).1 w2.heap.size 0 ?hx; (case hx => simp)))
             (try (have o1 := (bcell hb3).1 w2.heap.size 1 ?hx; (case hx => simp)))
             (try (have o2 := (bcell hb3).1 w2.heap.size 2 ?hx; (case hx => simp)))
             (try (have o3 := (bcell hb3).1 w2.heap.size 3 ?hx; (case hx => simp)))
             (try (have of := (fun (hh : _) k => (bcell hb3).2 w2.heap.size k hh) ?hx; (case hx => simp)))
             (try simp [go_sem] at o0 o1 o2 o3 of)))
        all_goals go_wp2_with fail
        all_goals go_meet
        all_goals have hsz8 := hbB.size
        all_goals refine ⟨rfl, HV.out.below ?_, hB7.trans (Below.mono ?_ hB7.size)⟩
        all_goals (repeat' (first | exact hbB | refine Below.drew ?_ | refine Below.alloc ?_ (by first | omega | (simp; omega)) _ | refine Below.setCell ?_ (by first | exact Nat.le_refl _ | exact hz2 | omega) _))
      case rest =>
        obtain ⟨rfl, v8, hB8⟩ := hcut
        clear v7 hB7
        have HV : Hid (VDk wc b M4) := v8
        obtain ⟨so, sc, co, cc, vb, hs, hc⟩ := v8
        obtain ⟨q0, q1, q2, q3, qf⟩ := vb.cells
        have hns := vb.nostr
        have vb9 : VBox (wc.setCell ⟨b, 2, none⟩ (.int .i64 0)) b (.slice so M4.secs.length sc) (.slice co M4.cache.length cc) (.int .i64 0) (.bool M4.off) := heap_setCell_same wc b 2 _ _ _ vb
        have hs9 := hs.box hns (grown_set wc b 2 (.int .i64 0))
        have hc9 := hc.box hns (grown_set wc b 2 (.int .i64 0))
        have hB9 := hB8.setCell (p := ⟨b, 2, none⟩) hwb (.int .i64 0)
        go_upto_region 10 with fail
        obtain ⟨W9, hW9⟩ : ∃ W9, W9 = wc.setCell ⟨b, 2, none⟩ (.int .i64 0) := ⟨_, rfl⟩
        rw [← hW9] at vb9 hs9 hc9 hB9 ⊢
        clear hW9 hs hc vb HV hns q0 q1 q2 q3 qf hB8
        obtain ⟨t0, t1, t2, t3, tf⟩ := vb9.cells
        go_wp2_with fail
        go_at_call 9; refine (cf7 _ so sc co cc hs9 hc9).mono ?_; rintro e w10 ⟨so6, sc6, co6, cc6, rfl, hs6, hc6, hb6⟩
        have hb6' : Below w.heap.size w (w10.alloc (.cells #[.slice so6 M7.secs.length sc6, .slice co6 M7.cache.length cc6, .int .i64 M7.fuse, .bool M7.off] 25)) := (below2 hB9 hb6).alloc (below2 hB9 hb6).size _
        have hbn : Below w10.heap.size w10 (w10.alloc (.cells #[.slice so6 M7.secs.length sc6, .slice co6 M7.cache.length cc6, .int .i64 M7.fuse, .bool M7.off] 25)) := (Below.refl _ _).alloc (Nat.le_refl _) _
        have vb7 : VBox (w10.alloc (.cells #[.slice so6 M7.secs.length sc6, .slice co6 M7.cache.length cc6, .int .i64 M7.fuse, .bool M7.off] 25)) w10.heap.size (.slice so6 M7.secs.length sc6) (.slice co6 M7.cache.length cc6) (.int .i64 M7.fuse) (.bool M7.off) := heap_alloc_new _ _
        have hs7 := hs6.keep hbn
        have hc7 := hc6.keep hbn
        go_upto_region 11 with fail
        obtain ⟨W6, hW6⟩ : ∃ W6, W6 = w10.alloc (.cells #[.slice so6 M7.secs.length sc6, .slice co6 M7.cache.length cc6, .int .i64 M7.fuse, .bool M7.off] 25) := ⟨_, rfl⟩
        rw [← hW6] at vb7 hb6' hs7 hc7 ⊢
        clear hW6 hbn hs6 hc6 hb6 t0 t1 t2 t3 tf vb9 hs9 hc9 hB9
        obtain ⟨r0, r1, r2, r3, rf⟩ := vb7.cells
        go_wp2_with fail
        go_at_call 11; refine (cr7 _ so6 sc6 co6 cc6 hs7 hc7).mono ?_; rintro e w11 ⟨rfl, hb7⟩
        have hbz := below2 hb6' hb7
        have vb8 := vb7.below hb7
        clear r0 r1 r2 r3 rf vb7 hs7 hc7 hb6' hb7
        have hx2 : (TT.toList == (({ data := #[98] } : ByteArray) ++ SA.extract 1 128).toList) = true := by rw [HX.out]; simp
        go_wp2_with fail
        go_at_call 35; refine (cb _).mono ?_; rintro e w12 ⟨rfl, hb12⟩
        go_wp2_with fail
        go_at_call 35; refine (ca _).mono ?_; rintro e w13 ⟨rfl, hb13⟩
        obtain ⟨_, _, _, r3, _⟩ := (vb8.below (below2 hb12 hb13)).cells
        rw [HO7.out] at r3
        go_wp2
        go_ret
        exact ⟨by simp, below2 (below2 hbz hb12) hb13⟩
end Go.Proofs.Ythjphgchnlihnaa.Disk
