/- What num.GetRow and the document's GetRow return, for every text: the row that its bytes begin with, or an error. -/
import Derived.Test.YtmbciomfkiadiacWalkRow
set_option linter.unusedVariables false
namespace Go.Proofs.Ytmbciomfkiadiac
open Go.RowKit

/-- so many numbers, one behind the other -/
def numsGo : Nat → List Int → List UInt8 → List Int × List UInt8 × Int
  | 0, acc, l => (acc, l, 0)
  | k + 1, acc, l => if (getGo 0 0 l).2.2 = 0 then numsGo k (acc ++ [((getGo 0 0 l).1 : Int)]) (getGo 0 0 l).2.1 else ([], [], (getGo 0 0 l).2.2)
def getRowL (l : List UInt8) : List Int × List UInt8 × Int :=
  if (getGo 0 0 l).2.2 = 0 then (if (getGo 0 0 l).1 ≤ 4096 then numsGo (getGo 0 0 l).1 [] (getGo 0 0 l).2.1 else ([], [], 7)) else ([], [], (getGo 0 0 l).2.2)
theorem numsGo_err {k : Nat} {acc : List Int} {l : List UInt8} {n : Nat} {r : List UInt8} {e : Int} (h : getGo 0 0 l = (n, r, e)) (he : e ≠ 0) : numsGo (k + 1) acc l = ([], [], e) := by
  rw [numsGo, h]; exact if_neg he
theorem numsGo_ok {k : Nat} {acc : List Int} {l : List UInt8} {n : Nat} {r : List UInt8} (h : getGo 0 0 l = (n, r, 0)) : numsGo (k + 1) acc l = numsGo k (acc ++ [(n : Int)]) r := by
  rw [numsGo, h]; exact if_pos rfl
theorem getRowL_err {l : List UInt8} {n : Nat} {r : List UInt8} {e : Int} (h : getGo 0 0 l = (n, r, e)) (he : e ≠ 0) : getRowL l = ([], [], e) := by
  rw [getRowL, h]; exact if_neg he
theorem getRowL_many {l : List UInt8} {n : Nat} {r : List UInt8} (h : getGo 0 0 l = (n, r, 0)) (hn : ¬ n ≤ 4096) : getRowL l = ([], [], 7) := by
  rw [getRowL, h]; simp only [if_pos]; exact if_neg hn
theorem getRowL_ok {l : List UInt8} {n : Nat} {r : List UInt8} (h : getGo 0 0 l = (n, r, 0)) (hn : n ≤ 4096) : getRowL l = numsGo n [] r := by
  rw [getRowL, h]; simp only [if_pos]; exact if_pos hn

theorem str_list (s : ByteArray) : ∃ l : List UInt8, s = ⟨l.toArray⟩ ∧ l.length = s.size := ⟨s.data.toList, by cases s; simp, by simp⟩
theorem size_list (l : List UInt8) : (⟨l.toArray⟩ : ByteArray).size = l.length := by show l.toArray.size = _; simp
theorem getS_list (l : List UInt8) : getS ⟨l.toArray⟩ = getGo 0 0 l := by simp [getS]

theorem firstL {l : List UInt8} {n : Nat} {r : List UInt8} {y : Int} (h : getGo 0 0 l = (n, r, y)) (hl : l.length ≤ 281474976710656) (w : World) :
    Calls Try.prog 21 #[.string ⟨l.toArray⟩] w fun e w' => e = .returned (.tuple #[.int .u64 n, .string ⟨r.toArray⟩, .int .i64 y]) ∧ Below w.heap.size w w' := by
  have := first_any ⟨l.toArray⟩ w (by rw [size_list]; unfold maxLen; omega)
  rw [getS_list, h] at this
  exact this
theorem cloneL (l : List UInt8) (hl : l.length ≤ 281474976710656) (w : World) :
    Calls Try.prog 19 #[.string ⟨l.toArray⟩] w fun e w' => e = .returned (.string ⟨l.toArray⟩) ∧ Below w.heap.size w w' := clone_any _ w (by rw [size_list]; exact hl)
theorem getGo_le {l : List UInt8} {i acc n : Nat} {r : List UInt8} {y : Int} (h : getGo i acc l = (n, r, y)) : r.length ≤ l.length := by
  have := getGo_len l i acc
  rw [h] at this
  exact this

theorem info_u64 : (Try.prog.info? 33).map (fun i => (i.zero, i.size, i.bytes)) = some (some (.int .u64 0), 1, 8) := by kernel_rfl

/-- what a reader of a row leaves: a slice that owns the numbers, what is behind, the error -/
def RowLeft (w : World) (r : List Int × List UInt8 × Int) (e : Ending) (w' : World) : Prop :=
  ∃ v, e = .returned (.tuple #[v, .string ⟨r.2.1.toArray⟩, .int .i64 r.2.2]) ∧ w'.ownsRow w.heap.size 33 1 v r.1.length (r.1.map (Value.int .u64)) ∧ Below w.heap.size w w'
theorem rowLeft_err {w w' : World} {r : List Int × List UInt8 × Int} {y : Int} (h : r = ([], [], y)) (hb : Below w.heap.size w w') : RowLeft w r (.returned (.tuple #[.slice none 0 0, .string ⟨#[]⟩, .int .i64 y])) w' := by
  subst h
  exact ⟨_, rfl, World.ownsRow_nil _ _ _ _, hb⟩
theorem rowLeft_ok {w w' : World} {r : List Int × List UInt8 × Int} {v : Value} {ns : List Int} {l : List UInt8} (h : r = (ns, l, 0)) (ho : w'.ownsRow w.heap.size 33 1 v ns.length (ns.map (Value.int .u64))) (hb : Below w.heap.size w w') :
    RowLeft w r (.returned (.tuple #[v, .string ⟨l.toArray⟩, .int .i64 0])) w' := by
  subst h
  exact ⟨_, rfl, ho, hb⟩

set_option maxHeartbeats 2000000 in
set_option maxRecDepth 20000 in
theorem list_any (l : List UInt8) (w : World) (hl : l.length ≤ 281474976710656) :
    Calls Try.prog 20 #[.string ⟨l.toArray⟩, .int .u64 4096, .func (.func 21) #[] #[]] w (RowLeft w (getRowL l)) := by
  obtain ⟨⟨n, r, y⟩, hg⟩ : ∃ r, getGo 0 0 l = r := ⟨_, rfl⟩
  have hf := firstL hg (by omega)
  have HG : Hid (getGo 0 0 l = (n, r, y)) := hg
  have hrl := getGo_le hg
  clear hg
  by_cases he : y = 0
  · subst he
    by_cases hn : n ≤ 4096
    · obtain ⟨i0, hi, hz0, hz1, hz2⟩ := info_parts info_u64
      go_enter Try.func20, Try.ntmps20
      go_wp2_with fail
      go_at_call 21; refine (hf _).mono ?_; rintro e w1 ⟨rfl, hb1⟩
      clear hf
      go_wp2_with fail
      go_loopw [10, 11, 12, 27] (fun rest why out i wr => ∃ (k : Nat) (ns : List Int) (q : List UInt8), k ≤ n ∧ i = .int .u64 k ∧ rest = .string ⟨q.toArray⟩ ∧ why = .int .i64 0 ∧ q.length ≤ l.length ∧ ns.length = k ∧ Hid (getRowL l = numsGo (n - k) ns q) ∧ wr.ownsRow w.heap.size 33 1 out ns.length (ns.map (Value.int .u64)) ∧ Below w.heap.size w wr) (fun _ _ _ i _ => n - (intOf i).toNat)
      case atStart => exact ⟨0, [], r, by omega, rfl, rfl, rfl, hrl, rfl, (getRowL_ok HG.out hn : getRowL l = _), World.ownsRow_nil _ _ _ _, hb1⟩
      case round =>
        obtain ⟨k, ns, q, hk, rfl, rfl, rfl, hq, hns, HL, hown, hW⟩ := hrel
        have hsz := hW.size
        by_cases hlt : k < n
        · obtain ⟨⟨m, q', y'⟩, hg'⟩ : ∃ r, getGo 0 0 q = r := ⟨_, rfl⟩
          have hf' := firstL hg' (by omega)
          have hq' := getGo_le hg'
          have HG' : Hid (getGo 0 0 q = (m, q', y')) := hg'
          clear hg'
          have HL' : Hid (getRowL l = numsGo (n - k - 1 + 1) ns q) := by have := HL.out; rwa [show n - k = n - k - 1 + 1 by omega] at this
          clear HL
          by_cases hy' : y' = 0
          · subst hy'
            go_wp2_with fail
            go_at_call 21; refine (hf' _).mono ?_; rintro e w2 ⟨rfl, hb2⟩
            clear hf'
            have hown2 := own_below hown hb2
            have hW2 := hW.trans (hb2.mono hsz)
            have hsz2 := hW2.size
            clear hown
            go_wp2_with (at_builtin; refine wpList_append_own _ rfl _ _ 24 rfl w.heap.size 33 i0 (.int .u64 0) 1 8 Try.underlying24 hi hz0 hz1 hz2 rfl (by decide) _ _ _ rfl (hown2.alloc _) ⟨w2.heap.size, 0, none⟩ 1 1 [.int .u64 (m : Int)] rfl rfl ?c1 ?c2 ?c3 ?c4 ?c5 ?_)
            case c1 =>
              intro j u hj
              match j, hj with
              | 0, hj => simp at hj; subst hj; simp [Addr.add]
            case c2 => intro u hu; simp at hu; subst hu; rfl
            case c3 => unfold maxLen; omega
            case c4 => omega
            case c5 => simp; omega
            · intro v' w3 hown' hgrow _
              have hW3 : Below w.heap.size w w3 := (hW2.alloc hsz2 _).grown hgrow (by simp; omega) (fun k hk => (hown2.lt k hk).1)
              go_wp2
              go_roundw
              case rel =>
                refine ⟨k + 1, ns ++ [(m : Int)], q', by omega, by go_num, rfl, rfl, by omega, by simp [hns], ?_, by simpa [hns] using hown', hW3⟩
                show getRowL l = _
                rw [HL'.out, numsGo_ok HG'.out, show n - k - 1 = n - (k + 1) by omega]
              case measure => simp [intOf]; omega
          · have hne : (y' != 0) = true := by simpa using hy'
            go_wp2_with fail
            go_at_call 21; refine (hf' _).mono ?_; rintro e w2 ⟨rfl, hb2⟩
            go_wp2
            go_ret3
            exact rowLeft_err (by rw [HL'.out, numsGo_err HG'.out hy']) (hW.trans (hb2.mono hsz))
        · obtain rfl : k = n := by omega
          go_wp2
          go_ret3
          exact rowLeft_ok (by rw [HL.out, Nat.sub_self, numsGo]) hown hW
    · go_enter Try.func20, Try.ntmps20
      go_wp2_with fail
      go_at_call 21; refine (hf _).mono ?_; rintro e w1 ⟨rfl, hb1⟩
      go_wp2
      go_ret3
      exact rowLeft_err (getRowL_many HG.out hn) hb1
  · have hne : (y != 0) = true := by simpa using he
    go_enter Try.func20, Try.ntmps20
    go_wp2_with fail
    go_at_call 21; refine (hf _).mono ?_; rintro e w1 ⟨rfl, hb1⟩
    go_wp2
    go_ret3
    exact rowLeft_err (getRowL_err HG.out he) hb1
theorem numsGo_le (k : Nat) : ∀ acc l, (numsGo k acc l).2.1.length ≤ l.length := by
  induction k with
  | zero => intro acc l; simp [numsGo]
  | succ k ih =>
    intro acc l
    rw [numsGo]
    split
    · have h1 := ih (acc ++ [((getGo 0 0 l).1 : Int)]) (getGo 0 0 l).2.1
      have h2 := getGo_len l 0 0
      omega
    · simp
theorem getRowL_le (l : List UInt8) : (getRowL l).2.1.length ≤ l.length := by
  rw [getRowL]
  split
  · split
    · have h1 := numsGo_le (getGo 0 0 l).1 [] (getGo 0 0 l).2.1
      have h2 := getGo_len l 0 0
      omega
    · simp
  · simp
theorem getRow_any (l : List UInt8) (w : World) (hl : l.length ≤ 281474976710656) :
    Calls Try.prog 10 #[.string ⟨l.toArray⟩] w (RowLeft w (getRowL l)) := by
  have hc := list_any l w hl
  have hle := getRowL_le l
  obtain ⟨⟨ns, q, y⟩, hr⟩ : ∃ r, getRowL l = r := ⟨_, rfl⟩
  rw [hr] at hc hle ⊢
  have hcl := cloneL q (by simp at hle; omega)
  go_enter Try.func10, Try.ntmps10
  go_wp2_with fail
  go_at_call 20; refine hc.mono ?_; rintro e w1 ⟨v, rfl, hown, hb1⟩
  go_wp2_with fail
  go_at_call 19; refine (hcl _).mono ?_; rintro e w2 ⟨rfl, hb2⟩
  go_wp2
  go_ret3
  exact ⟨v, rfl, own_below hown hb2, below2 hb1 hb2⟩
end Go.Proofs.Ytmbciomfkiadiac
