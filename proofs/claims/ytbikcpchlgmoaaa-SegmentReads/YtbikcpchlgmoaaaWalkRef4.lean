/- What the document's All, Take and Same of frames return. -/
import Derived.Test.YtbikcpchlgmoaaaWalkTake
import Derived.Test.YtbikcpchlgmoaaaWalkNext
set_option linter.unusedVariables false
namespace Go.Proofs.Ytbikcpchlgmoaaa.Frame
open Go.RowKit

theorem allIs_of {w w' : World} {l : List UInt8} {v : Value} {e : Ending} {a : List (List UInt8)} {b : List UInt8} (h : allL l = (a, b)) (he : e = .returned (.tuple #[v, .int .i64 ((l.length : Int) - b.length)]))
    (ho : w'.ownsRow w.heap.size 9 1 v a.length (a.map strV)) (hb : Below w.heap.size w w') : ∃ v, e = .returned (.tuple #[v, .int .i64 ((l.length : Int) - (allL l).2.length)]) ∧
      w'.ownsRow w.heap.size 9 1 v (allL l).1.length ((allL l).1.map strV) ∧ Below w.heap.size w w' := by
  rw [h]; exact ⟨v, he, ho, hb⟩
set_option maxHeartbeats 1000000 in
theorem rall_any (l : List UInt8) (w : World) (hl : l.length ≤ 100000) :
    Calls Try.prog 42 #[.string ⟨l.toArray⟩] w fun e w' => ∃ v, e = .returned (.tuple #[v, .int .i64 ((l.length : Int) - (allL l).2.length)]) ∧
      w'.ownsRow w.heap.size 9 1 v (allL l).1.length ((allL l).1.map strV) ∧ Below w.heap.size w w' := by
  obtain ⟨i0, hi, hz0, hz1, hz2⟩ := info_parts info_str
  obtain ⟨S, hS⟩ : ∃ S : ByteArray, S = ⟨l.toArray⟩ := ⟨_, rfl⟩
  have HS : Hid (S.size = l.length) := by rw [hS]; exact size_list _
  have hSs : S.size ≤ 100000 := by rw [HS.out]; exact hl
  have HL : Hid (S = ⟨l.toArray⟩) := hS
  rw [← hS]
  clear hS
  go_enter Try.func42, Try.ntmps42
  go_wp2_with fail
  go_loopw [4, 5] (fun out rest wr => ∃ (ps : List T3) (cur : List UInt8), TOk l ps cur ∧ rest = .string ⟨cur.toArray⟩ ∧ wr.ownsRow w.heap.size 9 1 out ps.length (ps.map (fun x => strV x.1)) ∧ Below w.heap.size w wr) (fun _ rest _ => strLen rest)
  case atStart => exact ⟨[], l, .nil, by rw [HL.out], World.ownsRow_nil _ _ _ _, Below.refl _ _⟩
  case round =>
    obtain ⟨ps, cur, hT, rfl, hown, hB⟩ := hrel
    have hcl := hT.le
    have hmany := hT.many
    have hal := (allL_le l.length l (Nat.le_refl _)).2
    have hsz := hB.size
    have c1 := fun w => rnext_any cur w (by omega)
    unfold NextIs at c1
    obtain ⟨⟨p, r, y⟩, hn⟩ : ∃ g, nextL cur = g := ⟨_, rfl⟩
    rw [hn] at c1
    simp only at c1
    obtain ⟨C, hC⟩ : ∃ C : ByteArray, C = ⟨cur.toArray⟩ := ⟨_, rfl⟩
    have HC : Hid (C.size = cur.length) := by rw [hC]; exact size_list _
    have hCS : C.size ≤ S.size := by rw [HC.out, HS.out]; exact hcl
    have HT : Hid (TOk l ps cur) := hT
    have HN : Hid (nextL cur = (p, r, y)) := hn
    rw [← hC] at c1 ⊢
    clear hC hT hn hcl
    by_cases hy : y = 0
    · subst hy
      go_wp2_with fail
      go_at_call 76; refine (c1 _).mono ?_; rintro e w1 ⟨rfl, hb1⟩
      have hown2 := own_keep hown hb1
      have hB2 := hB.trans (hb1.mono hsz)
      have hsz2 := hB2.size
      clear c1 hown
      go_wp2_with (at_builtin; refine wpList_append_own _ rfl _ _ 22 rfl w.heap.size 9 i0 (.string ⟨#[]⟩) 1 16 Try.underlying22 hi hz0 hz1 hz2 rfl (by decide) _ _ _ rfl (hown2.alloc _) ⟨w1.heap.size, 0, none⟩ 1 1 [.string ⟨p.toArray⟩] rfl rfl ?c1 ?c2 ?c3 ?c4 ?c5 ?_)
      case c1 =>
        intro j u hj
        match j, hj with
        | 0, hj => simp at hj; subst hj; simp [Addr.add]
      case c2 => intro u hu; simp at hu; subst hu; rfl
      case c3 => unfold maxLen; omega
      case c4 => omega
      case c5 => simp; omega
      · intro v' w3 hown' hgrow _
        have hB3 : Below w.heap.size w w3 := below_row (hB2.alloc hsz2 _) (by simp; omega) (Nat.le_refl _) (hown2.alloc _) hgrow
        have HO : Hid (w3.ownsRow w.heap.size 9 1 v' (ps ++ [(p, r, (0 : Int))]).length ((ps ++ [(p, r, (0 : Int))]).map (fun x => strV x.1))) := by
          show World.ownsRow _ _ _ _ _ _ _
          rw [List.length_append, List.map_append]; exact hown'
        clear hown'
        go_wp2
        go_roundw
        case rel => exact ⟨_, r, .snoc HT.out HN.out, rfl, HO.out, hB3⟩
        case measure =>
          show (⟨r.toArray⟩ : ByteArray).size < C.size
          rw [size_list, HC.out]
          exact (nextL_lt HN.out).2
    · have hne : (y != 0) = true := by simpa using hy
      have HA : Hid (allL l = (ps.map (fun x => x.1), cur)) := by show _ = _; rw [HT.out.all, allL_bad HN.out hy]; simp
      go_wp2_with fail
      go_at_call 76; refine (c1 _).mono ?_; rintro e w1 ⟨rfl, hb1⟩
      go_wp2
      go_ret2
      refine allIs_of HA.out (by rw [← HS.out, ← HC.out]; rfl) ?_ (hB.trans (hb1.mono hsz))
      simp only [List.length_map, List.map_map]
      exact own_keep hown hb1

theorem rtake_neg (l : List UInt8) (many : Int) (w : World) (h : many < 0) (hm : -9223372036854775808 ≤ many) :
    Calls Try.prog 44 #[.string ⟨l.toArray⟩, .int .i64 many] w (TakeIs w ([], [], 1)) := by
  go_enter Try.func44, Try.ntmps44
  go_wp2
  go_ret3
  exact ⟨_, rfl, World.ownsRow_nil _ _ _ _, Below.refl _ _⟩
theorem takeIs_of {w w' : World} {r : List (List UInt8) × List UInt8 × Int} {v : Value} {e : Ending} {a : List (List UInt8)} {b : List UInt8} {y : Int} (h : r = (a, b, y)) (he : e = .returned (.tuple #[v, .string ⟨b.toArray⟩, .int .i64 y]))
    (ho : w'.ownsRow w.heap.size 9 1 v a.length (a.map strV)) (hb : Below w.heap.size w w') : TakeIs w r e w' := by
  subst h; exact ⟨v, he, ho, hb⟩
set_option maxHeartbeats 1000000 in
theorem rtake_any (l : List UInt8) (n : Nat) (w : World) (hl : l.length ≤ 100000) (hn : n ≤ 9223372036854775807) :
    Calls Try.prog 44 #[.string ⟨l.toArray⟩, .int .i64 n] w (TakeIs w (takeL n l)) := by
  obtain ⟨i0, hi, hz0, hz1, hz2⟩ := info_parts info_str
  have hn0 : ¬ ((n : Int) < 0) := by omega
  go_enter Try.func44, Try.ntmps44
  go_wp2_with fail
  go_loopw [0, 7, 8] (fun rest out i wr => ∃ (ps : List T3) (cur : List UInt8), TOk l ps cur ∧ ps.length ≤ n ∧ i = .int .i64 ps.length ∧ rest = .string ⟨cur.toArray⟩ ∧ wr.ownsRow w.heap.size 9 1 out ps.length (ps.map (fun x => strV x.1)) ∧ Below w.heap.size w wr) (fun _ _ i _ => n - (intOf i).toNat)
  case atStart => exact ⟨[], l, .nil, by simp, rfl, rfl, World.ownsRow_nil _ _ _ _, Below.refl _ _⟩
  case round =>
    obtain ⟨ps, cur, hT, hpn, rfl, rfl, hown, hB⟩ := hrel
    have hcl := hT.le
    have hmany := hT.many
    have hal := (allL_le l.length l (Nat.le_refl _)).2
    have hsz := hB.size
    have HT : Hid (TOk l ps cur) := hT
    by_cases hlt : ps.length < n
    · have c1 := fun w => rnext_any cur w (by omega)
      unfold NextIs at c1
      obtain ⟨⟨p, r, y⟩, hn⟩ : ∃ g, nextL cur = g := ⟨_, rfl⟩
      rw [hn] at c1
      simp only at c1
      have HN : Hid (nextL cur = (p, r, y)) := hn
      clear hT hn hcl
      by_cases hy : y = 0
      · subst hy
        go_wp2_with fail
        go_at_call 76; refine (c1 _).mono ?_; rintro e w1 ⟨rfl, hb1⟩
        have hown2 := own_keep hown hb1
        have hB2 := hB.trans (hb1.mono hsz)
        have hsz2 := hB2.size
        clear c1 hown
        go_wp2_with (at_builtin; refine wpList_append_own _ rfl _ _ 22 rfl w.heap.size 9 i0 (.string ⟨#[]⟩) 1 16 Try.underlying22 hi hz0 hz1 hz2 rfl (by decide) _ _ _ rfl (hown2.alloc _) ⟨w1.heap.size, 0, none⟩ 1 1 [.string ⟨p.toArray⟩] rfl rfl ?c1 ?c2 ?c3 ?c4 ?c5 ?_)
        case c1 =>
          intro j u hj
          match j, hj with
          | 0, hj => simp at hj; subst hj; simp [Addr.add]
        case c2 => intro u hu; simp at hu; subst hu; rfl
        case c3 => unfold maxLen; omega
        case c4 => omega
        case c5 => simp; omega
        · intro v' w3 hown' hgrow _
          have hB3 : Below w.heap.size w w3 := below_row (hB2.alloc hsz2 _) (by simp; omega) (Nat.le_refl _) (hown2.alloc _) hgrow
          have HO : Hid (w3.ownsRow w.heap.size 9 1 v' (ps ++ [(p, r, (0 : Int))]).length ((ps ++ [(p, r, (0 : Int))]).map (fun x => strV x.1))) := by
            show World.ownsRow _ _ _ _ _ _ _
            rw [List.length_append, List.map_append]; exact hown'
          clear hown'
          go_wp2
          go_roundw
          case rel => exact ⟨_, r, .snoc HT.out HN.out, by simp; omega, by rw [List.length_append, List.length_singleton]; go_num, rfl, HO.out, hB3⟩
          case measure => simp [intOf]; omega
      · have hne : (y != 0) = true := by simpa using hy
        go_wp2_with fail
        go_at_call 76; refine (c1 _).mono ?_; rintro e w1 ⟨rfl, hb1⟩
        go_wp2
        go_ret3
        refine takeIs_of (HT.out.fails (by rw [HN.out]; exact hy) hlt) ?_ (World.ownsRow_nil _ _ _ _) (hB.trans (hb1.mono hsz))
        rw [HN.out]
        rfl
    · obtain rfl : ps.length = n := by omega
      go_wp2
      go_ret3
      refine takeIs_of HT.out.taken rfl ?_ hB
      simp only [List.length_map, List.map_map]
      exact hown

/-- a slice whose cells are these texts -/
def HasStrs (W : World) (v : Value) (zs : List (List UInt8)) : Prop :=
  ∃ o cap, v = .slice o zs.length cap ∧ ∀ j (h : j < zs.length), ∃ b i, o = some ⟨b, i, none⟩ ∧ W.cell? ⟨b, i + j, none⟩ = some (strV zs[j]) ∧ b < W.heap.size
theorem has_own {W : World} {B : Nat} {v : Value} {zs : List (List UInt8)} (h : W.ownsRow B 9 1 v zs.length (zs.map strV)) : HasStrs W v zs := by
  rcases h.2 with ⟨rfl, h0⟩ | ⟨g, cap, cur, rfl, hg, hgb, rest⟩
  · exact ⟨none, 0, by rw [h0], fun j hj => by omega⟩
  · refine ⟨_, cap, rfl, fun j hj => ⟨g, 0, rfl, ?_, (Array.getElem?_eq_some_iff.1 hgb).1⟩⟩
    rw [Nat.zero_add, h.cellAt j (by omega)]
    simp [hj]
theorem HasStrs.keep {W W' : World} {v : Value} {zs : List (List UInt8)} (h : HasStrs W v zs) (hb : Below W.heap.size W W') : HasStrs W' v zs := by
  obtain ⟨o, cap, rfl, hc⟩ := h
  refine ⟨o, cap, rfl, fun j hj => ?_⟩
  obtain ⟨b, i, e, h1, h2⟩ := hc j hj
  exact ⟨b, i, e, ((bcell hb).1 _ _ h2).trans h1, Nat.lt_of_lt_of_le h2 hb.size⟩
theorem HasStrs.one {W W' : World} {zs : List (List UInt8)} {o : Option Addr} {n cap : Nat} (h : HasStrs W (.slice o n cap) zs) (j : Nat) (hj : j < n) : n = zs.length ∧ ∃ b i p, o = some ⟨b, i, none⟩ ∧ zs[j]? = some p ∧ W.cell? ⟨b, i + j, none⟩ = some (.string ⟨p.toArray⟩) := by
  obtain ⟨o', cap', e, hc⟩ := h
  cases e
  obtain ⟨b, i, e, h1, _⟩ := hc j hj
  exact ⟨rfl, b, i, zs[j], e, by simp [hj], h1⟩
end Go.Proofs.Ytbikcpchlgmoaaa.Frame
