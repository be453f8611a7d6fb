/- What num.Text, num.GetText and the document's return, for every text. -/
import Derived.Test.YtmbciomfkiadiacWalkSame
set_option linter.unusedVariables false
namespace Go.Proofs.Ytmbciomfkiadiac
open Go.RowKit

def getTextL (l : List UInt8) : List UInt8 × List UInt8 × Int :=
  if (getGo 0 0 l).2.2 = 0 then (if (getGo 0 0 l).1 ≤ 32768 then (if (getGo 0 0 l).1 ≤ (getGo 0 0 l).2.1.length then ((getGo 0 0 l).2.1.take (getGo 0 0 l).1, (getGo 0 0 l).2.1.drop (getGo 0 0 l).1, 0) else ([], [], 5)) else ([], [], 7)) else ([], [], (getGo 0 0 l).2.2)
theorem getTextL_err {l : List UInt8} {n : Nat} {r : List UInt8} {e : Int} (h : getGo 0 0 l = (n, r, e)) (he : e ≠ 0) : getTextL l = ([], [], e) := by
  rw [getTextL, h]; exact if_neg he
theorem getTextL_many {l : List UInt8} {n : Nat} {r : List UInt8} (h : getGo 0 0 l = (n, r, 0)) (hn : ¬ n ≤ 32768) : getTextL l = ([], [], 7) := by
  rw [getTextL, h]; simp only [if_pos]; exact if_neg hn
theorem getTextL_short {l : List UInt8} {n : Nat} {r : List UInt8} (h : getGo 0 0 l = (n, r, 0)) (hn : n ≤ 32768) (hr : ¬ n ≤ r.length) : getTextL l = ([], [], 5) := by
  rw [getTextL, h]; simp only [if_pos, if_pos hn]; exact if_neg hr
theorem getTextL_ok {l : List UInt8} {n : Nat} {r : List UInt8} (h : getGo 0 0 l = (n, r, 0)) (hn : n ≤ 32768) (hr : n ≤ r.length) : getTextL l = (r.take n, r.drop n, 0) := by
  rw [getTextL, h]; simp only [if_pos, if_pos hn]; exact if_pos hr

theorem firstByte_nil (w : World) :
    Calls Try.prog 18 #[.string ⟨(([] : List UInt8)).toArray⟩] w fun e w' => e = .returned (.tuple #[.int .u8 0, .string ⟨#[]⟩, .int .i64 5]) ∧ Below w.heap.size w w' := by
  go_enter Try.func18, Try.ntmps18
  go_wp2
  go_ret3
  exact ⟨rfl, Below.refl _ _⟩
theorem firstByte_at (s : ByteArray) (w : World) (h : 0 < s.size) (hs : s.size ≤ 9223372036854775807) :
    Calls Try.prog 18 #[.string s] w fun e w' => e = .returned (.tuple #[.int .u8 (s[0].toNat : Int), .string (s.extract 1 s.size), .int .i64 0]) ∧ Below w.heap.size w w' := by
  have hne : s.toList.isEmpty = false := by
    rw [ByteArray.toList_eq, List.isEmpty_eq_false_iff]
    intro h0
    have h1 : s.data.toList.length = s.size := Array.length_toList
    rw [h0, List.length_nil] at h1
    omega
  go_enter Try.func18, Try.ntmps18
  go_wp2_with fail
  go_quiet (fail)
  go_wp2
  go_ret3
  exact ⟨rfl, below_drewN (Below.refl _ _) _⟩
theorem firstByte_cons (b : UInt8) (l : List UInt8) (w : World) (hl : l.length ≤ 281474976710656) :
    Calls Try.prog 18 #[.string ⟨(b :: l).toArray⟩] w fun e w' => e = .returned (.tuple #[.int .u8 (b.toNat : Int), .string ⟨l.toArray⟩, .int .i64 0]) ∧ Below w.heap.size w w' := by
  have hsz : (⟨(b :: l).toArray⟩ : ByteArray).size = l.length + 1 := by rw [size_list]; simp
  have := firstByte_at ⟨(b :: l).toArray⟩ w (by omega) (by omega)
  rw [extract_drop] at this
  exact this

theorem info_u8 : (Try.prog.info? 5).map (fun i => (i.zero, i.size, i.bytes)) = some (some (.int .u8 0), 1, 1) := by kernel_rfl
def BytesLeft (w : World) (r : List UInt8 × List UInt8 × Int) (e : Ending) (w' : World) : Prop :=
  ∃ v, e = .returned (.tuple #[v, .string ⟨r.2.1.toArray⟩, .int .i64 r.2.2]) ∧ w'.ownsRow w.heap.size 5 1 v r.1.length (Lib.byteCells r.1) ∧ Below w.heap.size w w'
theorem bytesLeft_err {w w' : World} {r : List UInt8 × List UInt8 × Int} {y : Int} (h : r = ([], [], y)) (hb : Below w.heap.size w w') : BytesLeft w r (.returned (.tuple #[.slice none 0 0, .string ⟨#[]⟩, .int .i64 y])) w' := by
  subst h
  exact ⟨_, rfl, World.ownsRow_nil _ _ _ _, hb⟩
theorem bytesLeft_ok {w w' : World} {r : List UInt8 × List UInt8 × Int} {v : Value} {ns : List UInt8} {l : List UInt8} (h : r = (ns, l, 0)) (ho : w'.ownsRow w.heap.size 5 1 v ns.length (Lib.byteCells ns)) (hb : Below w.heap.size w w') :
    BytesLeft w r (.returned (.tuple #[v, .string ⟨l.toArray⟩, .int .i64 0])) w' := by
  subst h
  exact ⟨_, rfl, ho, hb⟩

set_option maxHeartbeats 2000000 in
set_option maxRecDepth 20000 in
theorem listB_any (l : List UInt8) (w : World) (hl : l.length ≤ 281474976710656) :
    Calls Try.prog 17 #[.string ⟨l.toArray⟩, .int .u64 32768, .func (.func 18) #[] #[]] w (BytesLeft w (getTextL l)) := by
  obtain ⟨⟨n, r, y⟩, hg⟩ : ∃ r, getGo 0 0 l = r := ⟨_, rfl⟩
  have hf := firstL hg (by omega)
  have HG : Hid (getGo 0 0 l = (n, r, y)) := hg
  have hrl := getGo_le hg
  clear hg
  by_cases he : y = 0
  · subst he
    by_cases hn : n ≤ 32768
    · obtain ⟨i0, hi, hz0, hz1, hz2⟩ := info_parts info_u8
      go_enter Try.func17, Try.ntmps17
      go_wp2_with fail
      go_at_call 21; refine (hf _).mono ?_; rintro e w1 ⟨rfl, hb1⟩
      clear hf
      go_wp2_with fail
      go_loopw [10, 11, 12, 27] (fun rest why out i wr => ∃ (k : Nat), k ≤ n ∧ k ≤ r.length ∧ i = .int .u64 k ∧ rest = .string ⟨(r.drop k).toArray⟩ ∧ why = .int .i64 0 ∧ wr.ownsRow w.heap.size 5 1 out k (Lib.byteCells (r.take k)) ∧ Below w.heap.size w wr) (fun _ _ _ i _ => n - (intOf i).toNat)
      case atStart => exact ⟨0, by omega, by omega, rfl, rfl, rfl, World.ownsRow_nil _ _ _ _, hb1⟩
      case round =>
        obtain ⟨k, hk, hkr, rfl, rfl, rfl, hown, hW⟩ := hrel
        have hsz := hW.size
        by_cases hlt : k < n
        · by_cases hkl : k < r.length
          · obtain ⟨b, hb⟩ : ∃ b, b = r[k] := ⟨_, rfl⟩
            have hd : r.drop k = b :: r.drop (k + 1) := by rw [hb]; exact List.drop_eq_getElem_cons hkl
            have HT : Hid (r.take (k + 1) = r.take k ++ [b]) := by show _ = _; rw [hb]; exact List.take_succ_eq_append_getElem hkl
            clear hb
            rw [hd]
            clear hd
            have hf' := firstByte_cons b (r.drop (k + 1))
            go_wp2_with fail
            go_at_call 18; refine (hf' _ (by rw [List.length_drop]; omega)).mono ?_; rintro e w2 ⟨rfl, hb2⟩
            clear hf'
            have hown2 := own_below hown hb2
            have hW2 := hW.trans (hb2.mono hsz)
            have hsz2 := hW2.size
            clear hown
            go_wp2_with (at_builtin; refine wpList_append_own _ rfl _ _ 34 rfl w.heap.size 5 i0 (.int .u8 0) 1 1 Try.underlying34 hi hz0 hz1 hz2 rfl (by decide) _ _ _ rfl (hown2.alloc _) ⟨w2.heap.size, 0, none⟩ 1 1 [.int .u8 (b.toNat : Int)] rfl rfl ?c1 ?c2 ?c3 ?c4 ?c5 ?_)
            case c1 =>
              intro j u hj
              match j, hj with
              | 0, hj => simp at hj; subst hj; simp [Addr.add]
            case c2 => intro u hu; simp at hu; subst hu; rfl
            case c3 => unfold maxLen; omega
            case c4 => omega
            case c5 => simp; omega
            · intro v' w3 hown' hgrow _
              have hW3 : Below w.heap.size w w3 := (hW2.alloc hsz2 _).grown hgrow (by simp; omega) (fun k hk => (hown2.lt k hk).1)
              have HO : Hid (w3.ownsRow w.heap.size 5 1 v' (k + 1) (Lib.byteCells (r.take (k + 1)))) := by
                show World.ownsRow _ _ _ _ _ _ _
                rw [HT.out, ← byteCells_app]; exact hown'
              clear hown'
              go_wp2
              go_roundw
              case rel =>
                exact ⟨k + 1, by omega, by omega, by go_num, rfl, rfl, HO.out, hW3⟩
              case measure => simp [intOf]; omega
          · have hd : r.drop k = [] := List.drop_of_length_le (by omega)
            rw [hd]
            clear hd
            go_wp2_with fail
            go_at_call 18; refine (firstByte_nil _).mono ?_; rintro e w2 ⟨rfl, hb2⟩
            go_wp2
            go_ret3
            exact bytesLeft_err (getTextL_short HG.out hn (by omega)) (hW.trans (hb2.mono hsz))
        · obtain rfl : k = n := by omega
          go_wp2
          go_ret3
          exact bytesLeft_ok (getTextL_ok HG.out hn hkr) (by rw [List.length_take, Nat.min_eq_left hkr]; exact hown) hW
    · go_enter Try.func17, Try.ntmps17
      go_wp2_with fail
      go_at_call 21; refine (hf _).mono ?_; rintro e w1 ⟨rfl, hb1⟩
      go_wp2
      go_ret3
      exact bytesLeft_err (getTextL_many HG.out hn) hb1
  · have hne : (y != 0) = true := by simpa using he
    go_enter Try.func17, Try.ntmps17
    go_wp2_with fail
    go_at_call 21; refine (hf _).mono ?_; rintro e w1 ⟨rfl, hb1⟩
    go_wp2
    go_ret3
    exact bytesLeft_err (getTextL_err HG.out he) hb1

theorem conv_own {w : World} {B : Nat} {v : Value} {l : List UInt8} (h : w.ownsRow B 5 1 v l.length (Lib.byteCells l)) :
    (convert 34 9 v).run Try.prog w = .ok (.string ⟨l.toArray⟩) w := by
  rcases h.2 with ⟨hv, h0⟩ | ⟨g, cap, cur, hv, _⟩
  · subst hv
    obtain rfl : l = [] := List.length_eq_zero_iff.1 h0
    have := run_convert_bytes_nil (P := Try.prog) w 34 5 Try.underlying34 Try.underlying5 0 0 9 Try.underlying9
    exact this
  · subst hv
    refine run_convert_bytes_back (P := Try.prog) w 34 9 5 ⟨g, 0, none⟩ cap l Try.underlying34 Try.underlying5 Try.underlying9 (fun j hj => ?_)
    rw [addr_add, Nat.zero_add, h.cellAt j (by omega)]
    simp [Lib.byteCells, hj]
theorem getTextL_le (l : List UInt8) : (getTextL l).2.1.length ≤ l.length := by
  rw [getTextL]
  split
  · split
    · split
      · have h2 := getGo_len l 0 0
        simp
        omega
      · simp
    · simp
  · simp
theorem ret_txt {a b c : List UInt8} {y : Int} (h : a = b) : Ending.returned (.tuple #[.string ⟨a.toArray⟩, .string ⟨c.toArray⟩, .int .i64 y]) = .returned (.tuple #[.string ⟨b.toArray⟩, .string ⟨c.toArray⟩, .int .i64 y]) := by rw [h]
set_option maxHeartbeats 1000000 in
theorem getText_any (l : List UInt8) (w : World) (hl : l.length ≤ 281474976710656) :
    Calls Try.prog 8 #[.string ⟨l.toArray⟩] w fun e w' => e = .returned (.tuple #[.string ⟨(getTextL l).1.toArray⟩, .string ⟨(getTextL l).2.1.toArray⟩, .int .i64 (getTextL l).2.2]) ∧ Below w.heap.size w w' := by
  have hc := listB_any l w hl
  have hle := getTextL_le l
  obtain ⟨⟨t, q, y⟩, hr⟩ : ∃ r, getTextL l = r := ⟨_, rfl⟩
  rw [hr] at hc hle ⊢
  clear hr
  have hcl := cloneL q (by simp at hle; omega)
  go_enter Try.func8, Try.ntmps8
  go_wp2_with fail
  go_at_call 17; refine hc.mono ?_; rintro e w1 ⟨v, rfl, hown, hb1⟩
  clear hc
  go_wp2_with fail
  have k1 : (convert 34 9 v).run Try.prog w1.drew = .ok (.string ⟨t.toArray⟩) w1.drew := conv_own hown.drew
  go_region_with (go_at_call 19; refine (hcl _).mono ?_; rintro e w2 ⟨rfl, hb2⟩; have k2 := conv_own (own_below hown.drew hb2))
  all_goals go_wp2
  all_goals go_ret3
  all_goals exact ⟨rfl, below2 hb1.drew hb2⟩
end Go.Proofs.Ytmbciomfkiadiac
